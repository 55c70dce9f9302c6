/- Over by its contract. -/
import Derived.Test.YtkpihibeohjfnaaVw
namespace Go.Proofs.Ytkpihibeohjfnaa.Vx
open Go.ChangeShapes Go.WideShapes Go.ChangeAt Go.RowKit
open Go.Proofs.Ytkpihibeohjfnaa.Gr
open Go.Proofs.Ytkpihibeohjfnaa.Ev
open Go.Proofs.Ytkpihibeohjfnaa.Oe
open Go.Proofs.Ytkpihibeohjfnaa.Lv
open Go.Proofs.Ytkpihibeohjfnaa.Vp
open Go.Proofs.Ytkpihibeohjfnaa.Vq
open Go.Proofs.Ytkpihibeohjfnaa.Vr
open Go.Proofs.Ytkpihibeohjfnaa.Vt
open Go.Proofs.Ytkpihibeohjfnaa.Vu
open Go.Proofs.Ytkpihibeohjfnaa.Vv
open Go.Proofs.Ytkpihibeohjfnaa.Vw
open Go.Proofs.Ytkpihibeohjfnaa.Lx (lt)
set_option linter.unusedVariables false
set_option linter.unusedSimpArgs false

set_option maxHeartbeats 1000000 in
theorem over2 (g1 g2 : Nat) (la : Option Addr) (ln lc : Nat) (fs : List Fi) (limit : ByteArray) (w : World) (k1 : w.cell? ⟨g1, 0, none⟩ = some (.string limit)) (k2 : w.cell? ⟨g2, 0, none⟩ = some (.slice la ln lc)) (H : eFi.Sl w la ln lc fs) (i : Nat) (hi : i < ln) (hn : ln ≤ 1048576) :
    Calls Try.prog 52 #[.int .i64 i, .pointer (some ⟨g1, 0, none⟩), .pointer (some ⟨g2, 0, none⟩)] w fun e w' => e = .returned (.bool (notBelow limit fs i)) ∧ Below w.heap.size w w' := by
  obtain ⟨b, o, rfl, hat⟩ := get1 H i hi
  have hA := (fi_at (hat i hi)).2.2.1
  have hlc := H.c
  rw [show eFi.z = zf from rfl, show eFi.k = 6 from rfl] at hA
  clear hat H
  unfold notBelow
  generalize (fs.getD i zf).a = s at *
  have gs := Lx.geq_s 9 s limit
  change binOp .geq 9 (.string s) (.string limit) = pure (.bool (!(lt s limit))) at gs
  generalize lt s limit = B at *
  have ik0 : (i : Int) < (ln : Int) := by omega
  have ok0 : (0 : Int) ≤ (i : Int) := by omega
  by_cases h0 : limit.size = 0
  · rw [decide_eq_true h0]
    have : limit = ⟨#[]⟩ := emp h0
    subst this
    clear h0
    go_enter Try.func52, Try.ntmps52
    go_wp2_with fail
    go_quiet (fail)
    go_wp2_with fail
    go_ret
    exact ⟨rfl, drewN_below _ _⟩
  · rw [decide_eq_false h0]
    have h1 := ne_emp h0
    clear h0
    go_enter Try.func52, Try.ntmps52
    go_wp2_with fail
    go_quiet (fail)
    go_wp2_with fail
    go_ret
    exact ⟨rfl, drewN_below _ _⟩
theorem adown {α : Type} {E : El α} {w W1 W2 : World} {v : Value} {xs : List α} (h : Acc E W1 W2 v xs) (b : Below w.heap.size w W1) : Acc E w W2 v xs := ⟨own_base h.o (fun j hj => Nat.le_trans b.size (own_lt h.o j hj).1), Below.up b h.lo⟩
/-- What a range asks of a level. -/
def over (L : List (List Fi)) (level : Int) (least limit : ByteArray) : List Fi := if vld L = true ∧ fr 0 level ((L.length : Int) - 1) = true ∧ (limit.size = 0 ∨ lt least limit = true) then (L.getD level.toNat []).filter (ovl least limit) else []
/-- A part of a slice. -/
theorem part {α : Type} {E : El α} {w : World} {b o n c : Nat} {xs : List α} (H : E.Sl w (some ⟨b, o, none⟩) n c xs) (i j : Nat) (hij : i ≤ j) (hj : j ≤ n) (x : Nat) (hx : i < j → x = o + i * E.k) : E.Sl w (some ⟨b, x, none⟩) (j - i) (c - i) ((xs.drop i).take (j - i)) := by
  have hn := H.n
  have hc := H.c
  refine ⟨by rw [List.length_take, List.length_drop]; omega, by omega, (fun e => by cases e), fun y hy => H.ok y (List.mem_of_mem_drop (List.mem_of_mem_take hy)), ?_⟩
  intro b' o' p' e h0
  cases e
  obtain ⟨_, hat⟩ := H.cells b o none rfl (by omega)
  refine ⟨rfl, fun m hm => ?_⟩
  have h1 := hat (i + m) (by omega)
  rw [hx (by omega), Nat.add_assoc, ← Nat.add_mul]
  have e : ((xs.drop i).take (j - i)).getD m E.z = xs.getD (i + m) E.z := by
    rw [List.getD_eq_getElem?_getD, List.getD_eq_getElem?_getD, List.getElem?_take_of_lt hm, List.getElem?_drop]
  rw [e]
  exact h1
set_option maxHeartbeats 2000000 in
theorem over_any (a : Option Addr) (len cap : Nat) (L : List (List Fi)) (level : Int) (least limit : ByteArray) (w : World) (H : Lvs w a len cap L) (hw : wL L ≤ 1048576) :
    Calls Try.prog 29 #[.slice a len cap, .int .i64 level, .string least, .string limit] w fun e w' => ∃ v, e = .returned v ∧ Acc eFi w w' v (over L level least limit) := by
  have hll := wL_len L
  have hlen := H.len_eq
  have hcap := H.cap_le
  have hn8 : len ≤ 1048576 := by omega
  obtain ⟨W, g1, g2, hW, hg1, hg2, k1, k2, bW⟩ := boxes2 w #[.string least] #[.string limit] 9 9
  have q1 := cell_of k1 0 _ rfl
  have q2 := cell_of k2 0 _ rfl
  have HV := hid (valid_any a len cap L W (H.later bW) hw)
  have HT := hid (fun W => isThere_any a len cap level W hn8 hcap)
  have hsz : w.heap.size ≤ g1 ∧ g1 < W.heap.size ∧ g2 < W.heap.size := ⟨by omega, blk_lt k1, blk_lt k2⟩
  unfold over
  rw [hlen]
  have ls := Lx.leq_s 9 limit least
  change binOp .leq 9 (.string limit) (.string least) = pure (.bool (!(lt least limit))) at ls
  replace hW := hid hW
  replace hg1 := hid hg1
  replace hg2 := hid hg2
  replace bW := hid bW
  replace hlen := hid hlen
  replace hw := hid hw
  replace hsz := hid hsz
  have hN : Hid (∀ W', Below W.heap.size W W' → Acc eFi w W' (.slice none 0 0) []) := fun W' b => (Acc.nil eFi w).later (Below.up bW.out b)
  have HL : Hid (∀ W', Below w.heap.size w W' → Lvs W' a len cap L) := fun W' b => H.later b
  clear k1 k2 H hll
  generalize hvb : vld L = vb at *
  cases vb with
  | false =>
    rw [if_neg (by simp)]
    clear hvb
    go_enter Try.func29, Try.ntmps29
    go_wp2_with (first | (go_at_call 11; rw [← hW.out]; refine HV.out.mono ?_; rintro e w1 ⟨rfl, b1⟩; replace b1 := hid b1))
    go_ret
    exact ⟨_, rfl, hN.out _ b1.out⟩
  | true =>
    generalize hfb : fr 0 level ((len : Int) - 1) = fb at *
    cases fb with
    | false =>
      rw [if_neg (by simp)]
      clear hvb hfb
      go_enter Try.func29, Try.ntmps29
      go_wp2_with (first | (go_at_call 11; rw [← hW.out, ← hg1.out, ← hg2.out]; refine HV.out.mono ?_; rintro e w1 ⟨rfl, b1⟩; replace b1 := hid b1) | (go_at_call 46; refine (HT.out _).mono ?_; rintro e w2 ⟨rfl, hw2⟩; subst hw2))
      go_ret
      exact ⟨_, rfl, hN.out _ b1.out⟩
    | true =>
      by_cases hbad : ¬ limit.size = 0 ∧ lt least limit = false
      · rw [if_neg (by rintro ⟨_, _, h | h⟩; exact hbad.1 h; rw [hbad.2] at h; cases h)]
        have h1 := ne_emp hbad.1
        rw [hbad.2] at ls
        have hq : Hid (∀ w2, Below W.heap.size W w2 → w2.cell? ⟨g1, 0, none⟩ = some (.string least) ∧ w2.cell? ⟨g2, 0, none⟩ = some (.string limit)) := fun w2 b => ⟨cell_later q1 b, cell_later q2 b⟩
        clear hvb hfb hbad q1 q2
        go_enter Try.func29, Try.ntmps29
        go_wp2_with (first | (go_at_call 11; rw [← hW.out, ← hg1.out, ← hg2.out]; refine HV.out.mono ?_; rintro e w1 ⟨rfl, b1⟩; obtain ⟨q1, q2⟩ := hq.out w1 b1; replace b1 := hid b1) | (go_at_call 46; refine (HT.out _).mono ?_; rintro e w2 ⟨rfl, hw2⟩; subst hw2))
        go_ret
        exact ⟨_, rfl, hN.out _ b1.out⟩
      · obtain ⟨lv, rfl⟩ : ∃ lv : Nat, level = lv := ⟨level.toNat, by unfold fr at hfb; simp at hfb; omega⟩
        have hlv : lv < len := by unfold fr at hfb; simp at hfb; omega
        have hgood : limit.size = 0 ∨ lt least limit = true := by
          by_cases h : limit.size = 0
          · exact .inl h
          · cases hl : lt least limit with
            | true => exact .inr rfl
            | false => exact absurd ⟨h, hl⟩ hbad
        rw [if_pos ⟨rfl, rfl, hgood⟩, Int.toNat_natCast]
        obtain ⟨lb, lof, la, ln, lc, rfl, cl0, FS, hln⟩ := (HL.out w (Below.refl _ _)).at lv hlv
        have hlvok : lvOk lv (L.getD lv []) := by
          have h := hvb
          unfold vld at h
          simp only [Bool.and_eq_true, decide_eq_true_eq] at h
          exact h.2.1 lv (by rw [hlen.out]; exact hlv)
        have hsum := wL_at (L := L) (i := lv) (by rw [hlen.out]; exact hlv)
        have hln8 : ln ≤ 1048576 := by have := hw.out; omega
        obtain ⟨fs, hfs⟩ : ∃ fs, fs = L.getD lv [] := ⟨_, rfl⟩
        rw [← hfs] at FS hln hlvok ⊢
        have hlc := FS.c
        have HF : Hid (∀ W', Below w.heap.size w W' → eFi.Sl W' la ln lc fs) := fun W' b => FS.later b
        have hq : Hid (∀ w2, Below W.heap.size W w2 → w2.cell? ⟨g1, 0, none⟩ = some (.string least) ∧ w2.cell? ⟨g2, 0, none⟩ = some (.string limit) ∧ w2.cell? ⟨lb, lof + lv, none⟩ = some (.slice la ln lc)) := fun w2 b => ⟨cell_later q1 b, cell_later q2 b, cell_later cl0 (Below.up bW.out b)⟩
        have ik0 : (lv : Int) < (len : Int) := by omega
        have ok0 : (0 : Int) ≤ (lv : Int) := by omega
        replace hfs := hid hfs
        replace hlvok := hid hlvok
        replace hln := hid hln
        clear hvb hfb hbad FS hsum cl0 HL hN
        by_cases hz : lv = 0
        · have HK : Hid (∀ w1, Below W.heap.size W w1 → Calls Try.prog 48 #[.slice la ln lc, .func (.func 49) #[] #[.pointer (some ⟨g1, 0, none⟩), .pointer (some ⟨g2, 0, none⟩)]] (w1.alloc (.cells #[.slice la ln lc] 39)) fun e w' => ∃ v, e = .returned v ∧ Acc eFi w w' v (fs.filter (ovl least limit))) := by
            intro w1 b
            have b2 := box_below w1 (.cells #[.slice la ln lc] 39)
            have b3 : Below w.heap.size w (w1.alloc (.cells #[.slice la ln lc] 39)) := Below.up (Below.up bW.out b) b2
            refine (keep_any 49 (.pointer (some ⟨g1, 0, none⟩)) (.pointer (some ⟨g2, 0, none⟩)) (ovl least limit) la ln lc fs (w1.alloc (.cells #[.slice la ln lc] 39)) (HF.out _ b3) hln8 (enters_of Try.func49 (by kernel_rfl) rfl) (fun f hf W' bb => over1 g1 g2 least limit f W' (cell_later q1 (Below.up (Below.up b b2) bb)) (cell_later q2 (Below.up (Below.up b b2) bb)))).mono ?_
            rintro e w' ⟨v, rfl, A⟩
            exact ⟨v, rfl, adown A b3⟩
          have hzb : ((lv : Int) == 0) = true := by rw [hz]; rfl
          replace hz := hid hz
          clear q1 q2
          by_cases h0 : limit.size = 0
          · have hlim : limit = ⟨#[]⟩ := emp h0
            subst hlim
            clear h0 hgood
            go_enter Try.func29, Try.ntmps29
            go_wp2_with (first | (go_at_call 11; rw [← hW.out, ← hg1.out, ← hg2.out]; refine HV.out.mono ?_; rintro e w1 ⟨rfl, b1⟩; obtain ⟨q1, q2, cl⟩ := hq.out w1 b1; replace b1 := hid b1) | (go_at_call 46; refine (HT.out _).mono ?_; rintro e w2 ⟨rfl, hw2⟩; subst hw2) | (go_at_call 48; refine (HK.out _ b1.out).mono ?_; rintro e w5 ⟨v5, rfl, A5⟩; replace A5 := hid A5))
            go_ret
            exact ⟨_, rfl, A5.out⟩
          · have h1 := ne_emp h0
            have hl : lt least limit = true := hgood.resolve_left h0
            rw [hl] at ls
            clear h0 hgood hl
            go_enter Try.func29, Try.ntmps29
            go_wp2_with (first | (go_at_call 11; rw [← hW.out, ← hg1.out, ← hg2.out]; refine HV.out.mono ?_; rintro e w1 ⟨rfl, b1⟩; obtain ⟨q1, q2, cl⟩ := hq.out w1 b1; replace b1 := hid b1) | (go_at_call 46; refine (HT.out _).mono ?_; rintro e w2 ⟨rfl, hw2⟩; subst hw2) | (go_at_call 48; refine (HK.out _ b1.out).mono ?_; rintro e w5 ⟨v5, rfl, A5⟩; replace A5 := hid A5))
            go_ret
            exact ⟨_, rfl, A5.out⟩
        · have hlv0 : 0 < lv := by omega
          have hlf : ln = fs.length := hln.out
          have HA : Hid (∀ w1, Below W.heap.size W w1 → Calls Try.prog 50 #[.slice la ln lc, .string least] (w1.alloc (.cells #[.slice la ln lc] 39)) fun e w' => (∃ r : Nat, e = .returned (.int .i64 r) ∧ Vu.Found (above least fs) ln r) ∧ Below (w1.alloc (.cells #[.slice la ln lc] 39)).heap.size (w1.alloc (.cells #[.slice la ln lc] 39)) w') := by
            intro w1 b
            have b2 := box_below w1 (.cells #[.slice la ln lc] 39)
            exact first_any la ln lc fs least _ (HF.out _ (Below.up (Below.up bW.out b) b2)) hln8 (by rw [hlf]; exact mono_above hlv0 hlvok.out least)
          have HS : Hid (∀ w1, Below W.heap.size W w1 → ∀ w4, Below (w1.alloc (.cells #[.slice la ln lc] 39)).heap.size (w1.alloc (.cells #[.slice la ln lc] 39)) w4 → Calls Try.prog 51 #[.int .i64 ln, .func (.func 52) #[] #[.pointer (some ⟨g2, 0, none⟩), .pointer (some ⟨w1.heap.size, 0, none⟩)]] w4 fun e w' => (∃ r : Nat, e = .returned (.int .i64 r) ∧ Vu.Found (notBelow limit fs) ln r) ∧ Below w4.heap.size w4 w') := by
            intro w1 b w4 b4
            have b2 := box_below w1 (.cells #[.slice la ln lc] 39)
            have n2 := cell_of (new_at w1 (.cells #[.slice la ln lc] 39)) 0 _ rfl
            exact search_any 52 (.pointer (some ⟨g2, 0, none⟩)) (.pointer (some ⟨w1.heap.size, 0, none⟩)) (notBelow limit fs) ln w4 hln8 (by rw [hlf]; exact mono_notBelow hlv0 hlvok.out limit) (enters_of Try.func52 (by kernel_rfl) rfl) (fun i hi W' bb => over2 g2 w1.heap.size la ln lc fs limit W' (cell_later q2 (Below.up (Below.up (Below.up b b2) b4) bb)) (cell_later n2 (Below.up b4 bb)) (HF.out _ (Below.up (Below.up (Below.up (Below.up bW.out b) b2) b4) bb)) i hi hln8)
          have hq3 : Hid (∀ w1, Below W.heap.size W w1 → (w1.alloc (.cells #[.slice la ln lc] 39)).cell? ⟨g1, 0, none⟩ = some (.string least) ∧ ∀ w4, Below (w1.alloc (.cells #[.slice la ln lc] 39)).heap.size (w1.alloc (.cells #[.slice la ln lc] 39)) w4 → w4.cell? ⟨w1.heap.size, 0, none⟩ = some (.slice la ln lc)) := by
            intro w1 b
            have b2 := box_below w1 (.cells #[.slice la ln lc] 39)
            have n2 := cell_of (new_at w1 (.cells #[.slice la ln lc] 39)) 0 _ rfl
            exact ⟨cell_later q1 (Below.up b b2), fun w4 b4 => cell_later n2 b4⟩
          have hzb : ((lv : Int) == 0) = false := by rw [beq_eq_false_iff_ne]; omega
          have hOR := hid (fun a b (ha : Vu.Found (above least fs) fs.length a) (hb : Vu.Found (notBelow limit fs) fs.length b) => over_range hlv0 hlvok.out hgood ha hb)
          rw [← hlf] at hOR
          obtain ⟨Fl, hFl⟩ : ∃ X, X = fs.filter (ovl least limit) := ⟨_, rfl⟩
          rw [← hFl] at hOR ⊢
          replace hFl := hid hFl
          clear hz hlv0 q1 q2 hlf
          by_cases h0 : limit.size = 0
          · have hlim : limit = ⟨#[]⟩ := emp h0
            subst hlim
            clear h0 hgood
            go_enter Try.func29, Try.ntmps29
            go_wp2_with (first | (go_at_call 11; rw [← hW.out, ← hg1.out, ← hg2.out]; refine HV.out.mono ?_; rintro e w1 ⟨rfl, b1⟩; obtain ⟨q1, q2, cl⟩ := hq.out w1 b1; obtain ⟨q3, q4⟩ := hq3.out w1 b1; replace q4 := hid q4; replace b1 := hid b1) | (go_at_call 46; refine (HT.out _).mono ?_; rintro e w2 ⟨rfl, hw2⟩; subst hw2) | (go_at_call 50; refine (HA.out _ b1.out).mono ?_; rintro e w5 ⟨⟨r1, rfl, F1⟩, b5⟩; have q5 := q4.out w5 b5; replace b5 := hid b5; replace F1 := hid F1))
            refine (HS.out _ b1.out _ b5.out).mono ?_
            rintro e w6 ⟨⟨r2, rfl, F2⟩, b6⟩
            have q6 := q4.out w6 (Below.up b5.out b6)
            have bb6 : Below w.heap.size w w6 := Below.up (Below.up (Below.up (Below.up bW.out b1.out) (box_below _ _)) b5.out) b6
            obtain ⟨hr, hE⟩ := hOR.out r1 r2 F1.out F2
            have hr2 := F2.le
            have F6 := HF.out w6 bb6
            have hap : Hid (∀ w6, Below w.heap.size w w6 → ∀ (a : Option Addr) (n c : Nat), eFi.Sl w6 a n c ((fs.drop r1).take (r2 - r1)) → ∃ (va : Option Addr) (vn vc : Nat) (W7 : World), (Builtin.append_ #[39, 39] 39 #[.slice none 0 0, .slice a n c]).run Try.prog w6 = .ok (.slice va vn vc) W7 ∧ Acc eFi w W7 (.slice va vn vc) Fl) := by
              intro w6 b6 a n c HB
              have hn9 : n ≤ 1048576 := by
                have := HB.n
                rw [List.length_take, List.length_drop] at this
                omega
              obtain ⟨v', W', r1', A'⟩ := ((Acc.nil eFi w).later b6).app HB (by show (0 + n) * 64 ≤ _; omega) (by show 0 + n ≤ _; omega)
              rw [List.nil_append, ← hE] at A'
              obtain ⟨a', c', hv'⟩ := A'.shape
              subst hv'
              exact ⟨_, _, _, W', r1', A'⟩
            replace b6 := bb6
            replace F2 := hid F2
            replace hE := hid hE
            clear bb6
            cases la with
            | none =>
              obtain ⟨h01, h02⟩ := F6.nil rfl
              subst h01 h02
              obtain rfl : r2 = 0 := by omega
              obtain rfl : r1 = 0 := by omega
              have HB' : eFi.Sl w6 none 0 0 ((fs.drop 0).take (0 - 0)) := by simpa using El.Sl.none eFi w6
              obtain ⟨va, vn, vc, W7, r7, A7⟩ := hap.out w6 b6 none 0 0 HB'
              replace r7 := hid r7
              replace A7 := hid A7
              clear HB'
              go_wp2_with (first | (at_builtin; refine wpList_append_run rfl (.const (.slice none 0 0)) (.tmp 49) 39 39 rfl (.slice none 0 0) (.slice none 0 0) (.slice va vn vc) rfl rfl r7.out ?_))
              go_ret
              exact ⟨_, rfl, A7.out⟩
            | some ad =>
              by_cases h00 : ln = 0
              · subst h00
                obtain rfl : r2 = 0 := by omega
                obtain rfl : r1 = 0 := by omega
                have hnil : fs = [] := List.eq_nil_of_length_eq_zero hln.out.symm
                have HB0 := F6
                rw [hnil] at HB0
                by_cases hc0 : lc = 0
                · subst hc0
                  have HB' : eFi.Sl w6 (some ad) 0 0 ((fs.drop 0).take (0 - 0)) := by rw [hnil]; simpa using HB0
                  obtain ⟨va, vn, vc, W7, r7, A7⟩ := hap.out w6 b6 (some ad) 0 0 HB'
                  replace r7 := hid r7
                  replace A7 := hid A7
                  clear HB'
                  go_wp2_with (first | (at_builtin; refine wpList_append_run rfl (.const (.slice none 0 0)) (.tmp 49) 39 39 rfl (.slice none 0 0) (.slice (some ad) 0 0) (.slice va vn vc) rfl rfl r7.out ?_))
                  go_ret
                  exact ⟨_, rfl, A7.out⟩
                · have hcb : ((lc : Int) == 0) = false := by rw [beq_eq_false_iff_ne]; omega
                  have HB' : eFi.Sl w6 (some ad) 0 lc ((fs.drop 0).take (0 - 0)) := by rw [hnil]; simpa using HB0
                  obtain ⟨va, vn, vc, W7, r7, A7⟩ := hap.out w6 b6 (some ad) 0 lc HB'
                  replace r7 := hid r7
                  replace A7 := hid A7
                  clear HB'
                  go_wp2_with (first | (at_builtin; refine wpList_append_run rfl (.const (.slice none 0 0)) (.tmp 49) 39 39 rfl (.slice none 0 0) (.slice (some ad) 0 lc) (.slice va vn vc) rfl rfl r7.out ?_))
                  go_ret
                  exact ⟨_, rfl, A7.out⟩
              · obtain ⟨b, o, p⟩ := ad
                obtain ⟨hp, _⟩ := F6.cells b o p rfl (by omega)
                subst hp
                have i1 : (r1 : Int) ≤ (r2 : Int) := by omega
                have i2 : (r2 : Int) ≤ (lc : Int) := by omega
                have i3 : (0 : Int) ≤ (r1 : Int) := by omega
                by_cases hc0 : r1 = lc
                · subst hc0
                  obtain rfl : r2 = r1 := by omega
                  have HB' : eFi.Sl w6 (some ⟨b, o, none⟩) 0 0 ((fs.drop r2).take (r2 - r2)) := by have := part F6 r2 r2 (Nat.le_refl _) hr2 o (fun h => by omega); simpa using this
                  obtain ⟨va, vn, vc, W7, r7, A7⟩ := hap.out w6 b6 (some ⟨b, o, none⟩) 0 0 HB'
                  replace r7 := hid r7
                  replace A7 := hid A7
                  clear HB'
                  go_wp2_with (first | (at_builtin; refine wpList_append_run rfl (.const (.slice none 0 0)) (.tmp 49) 39 39 rfl (.slice none 0 0) (.slice (some ⟨b, o, none⟩) 0 0) (.slice va vn vc) rfl rfl r7.out ?_))
                  go_ret
                  exact ⟨_, rfl, A7.out⟩
                · have i4 : ¬ lc - r1 = 0 := by omega
                  have HB' : eFi.Sl w6 (some ⟨b, o + r1 * 6, none⟩) (r2 - r1) (lc - r1) ((fs.drop r1).take (r2 - r1)) := part F6 r1 r2 hr hr2 _ (fun _ => rfl)
                  obtain ⟨va, vn, vc, W7, r7, A7⟩ := hap.out w6 b6 (some ⟨b, o + r1 * 6, none⟩) (r2 - r1) (lc - r1) HB'
                  replace r7 := hid r7
                  replace A7 := hid A7
                  clear HB'
                  go_wp2_with (first | (at_builtin; refine wpList_append_run rfl (.const (.slice none 0 0)) (.tmp 49) 39 39 rfl (.slice none 0 0) (.slice (some ⟨b, o + r1 * 6, none⟩) (r2 - r1) (lc - r1)) (.slice va vn vc) rfl rfl r7.out ?_))
                  go_ret
                  exact ⟨_, rfl, A7.out⟩
          · have h1 := ne_emp h0
            have hl : lt least limit = true := hgood.resolve_left h0
            rw [hl] at ls
            clear h0 hgood hl
            go_enter Try.func29, Try.ntmps29
            go_wp2_with (first | (go_at_call 11; rw [← hW.out, ← hg1.out, ← hg2.out]; refine HV.out.mono ?_; rintro e w1 ⟨rfl, b1⟩; obtain ⟨q1, q2, cl⟩ := hq.out w1 b1; obtain ⟨q3, q4⟩ := hq3.out w1 b1; replace q4 := hid q4; replace b1 := hid b1) | (go_at_call 46; refine (HT.out _).mono ?_; rintro e w2 ⟨rfl, hw2⟩; subst hw2) | (go_at_call 50; refine (HA.out _ b1.out).mono ?_; rintro e w5 ⟨⟨r1, rfl, F1⟩, b5⟩; have q5 := q4.out w5 b5; replace b5 := hid b5; replace F1 := hid F1))
            refine (HS.out _ b1.out _ b5.out).mono ?_
            rintro e w6 ⟨⟨r2, rfl, F2⟩, b6⟩
            have q6 := q4.out w6 (Below.up b5.out b6)
            have bb6 : Below w.heap.size w w6 := Below.up (Below.up (Below.up (Below.up bW.out b1.out) (box_below _ _)) b5.out) b6
            obtain ⟨hr, hE⟩ := hOR.out r1 r2 F1.out F2
            have hr2 := F2.le
            have F6 := HF.out w6 bb6
            have hap : Hid (∀ w6, Below w.heap.size w w6 → ∀ (a : Option Addr) (n c : Nat), eFi.Sl w6 a n c ((fs.drop r1).take (r2 - r1)) → ∃ (va : Option Addr) (vn vc : Nat) (W7 : World), (Builtin.append_ #[39, 39] 39 #[.slice none 0 0, .slice a n c]).run Try.prog w6 = .ok (.slice va vn vc) W7 ∧ Acc eFi w W7 (.slice va vn vc) Fl) := by
              intro w6 b6 a n c HB
              have hn9 : n ≤ 1048576 := by
                have := HB.n
                rw [List.length_take, List.length_drop] at this
                omega
              obtain ⟨v', W', r1', A'⟩ := ((Acc.nil eFi w).later b6).app HB (by show (0 + n) * 64 ≤ _; omega) (by show 0 + n ≤ _; omega)
              rw [List.nil_append, ← hE] at A'
              obtain ⟨a', c', hv'⟩ := A'.shape
              subst hv'
              exact ⟨_, _, _, W', r1', A'⟩
            replace b6 := bb6
            replace F2 := hid F2
            replace hE := hid hE
            clear bb6
            cases la with
            | none =>
              obtain ⟨h01, h02⟩ := F6.nil rfl
              subst h01 h02
              obtain rfl : r2 = 0 := by omega
              obtain rfl : r1 = 0 := by omega
              have HB' : eFi.Sl w6 none 0 0 ((fs.drop 0).take (0 - 0)) := by simpa using El.Sl.none eFi w6
              obtain ⟨va, vn, vc, W7, r7, A7⟩ := hap.out w6 b6 none 0 0 HB'
              replace r7 := hid r7
              replace A7 := hid A7
              clear HB'
              go_wp2_with (first | (at_builtin; refine wpList_append_run rfl (.const (.slice none 0 0)) (.tmp 49) 39 39 rfl (.slice none 0 0) (.slice none 0 0) (.slice va vn vc) rfl rfl r7.out ?_))
              go_ret
              exact ⟨_, rfl, A7.out⟩
            | some ad =>
              by_cases h00 : ln = 0
              · subst h00
                obtain rfl : r2 = 0 := by omega
                obtain rfl : r1 = 0 := by omega
                have hnil : fs = [] := List.eq_nil_of_length_eq_zero hln.out.symm
                have HB0 := F6
                rw [hnil] at HB0
                by_cases hc0 : lc = 0
                · subst hc0
                  have HB' : eFi.Sl w6 (some ad) 0 0 ((fs.drop 0).take (0 - 0)) := by rw [hnil]; simpa using HB0
                  obtain ⟨va, vn, vc, W7, r7, A7⟩ := hap.out w6 b6 (some ad) 0 0 HB'
                  replace r7 := hid r7
                  replace A7 := hid A7
                  clear HB'
                  go_wp2_with (first | (at_builtin; refine wpList_append_run rfl (.const (.slice none 0 0)) (.tmp 49) 39 39 rfl (.slice none 0 0) (.slice (some ad) 0 0) (.slice va vn vc) rfl rfl r7.out ?_))
                  go_ret
                  exact ⟨_, rfl, A7.out⟩
                · have hcb : ((lc : Int) == 0) = false := by rw [beq_eq_false_iff_ne]; omega
                  have HB' : eFi.Sl w6 (some ad) 0 lc ((fs.drop 0).take (0 - 0)) := by rw [hnil]; simpa using HB0
                  obtain ⟨va, vn, vc, W7, r7, A7⟩ := hap.out w6 b6 (some ad) 0 lc HB'
                  replace r7 := hid r7
                  replace A7 := hid A7
                  clear HB'
                  go_wp2_with (first | (at_builtin; refine wpList_append_run rfl (.const (.slice none 0 0)) (.tmp 49) 39 39 rfl (.slice none 0 0) (.slice (some ad) 0 lc) (.slice va vn vc) rfl rfl r7.out ?_))
                  go_ret
                  exact ⟨_, rfl, A7.out⟩
              · obtain ⟨b, o, p⟩ := ad
                obtain ⟨hp, _⟩ := F6.cells b o p rfl (by omega)
                subst hp
                have i1 : (r1 : Int) ≤ (r2 : Int) := by omega
                have i2 : (r2 : Int) ≤ (lc : Int) := by omega
                have i3 : (0 : Int) ≤ (r1 : Int) := by omega
                by_cases hc0 : r1 = lc
                · subst hc0
                  obtain rfl : r2 = r1 := by omega
                  have HB' : eFi.Sl w6 (some ⟨b, o, none⟩) 0 0 ((fs.drop r2).take (r2 - r2)) := by have := part F6 r2 r2 (Nat.le_refl _) hr2 o (fun h => by omega); simpa using this
                  obtain ⟨va, vn, vc, W7, r7, A7⟩ := hap.out w6 b6 (some ⟨b, o, none⟩) 0 0 HB'
                  replace r7 := hid r7
                  replace A7 := hid A7
                  clear HB'
                  go_wp2_with (first | (at_builtin; refine wpList_append_run rfl (.const (.slice none 0 0)) (.tmp 49) 39 39 rfl (.slice none 0 0) (.slice (some ⟨b, o, none⟩) 0 0) (.slice va vn vc) rfl rfl r7.out ?_))
                  go_ret
                  exact ⟨_, rfl, A7.out⟩
                · have i4 : ¬ lc - r1 = 0 := by omega
                  have HB' : eFi.Sl w6 (some ⟨b, o + r1 * 6, none⟩) (r2 - r1) (lc - r1) ((fs.drop r1).take (r2 - r1)) := part F6 r1 r2 hr hr2 _ (fun _ => rfl)
                  obtain ⟨va, vn, vc, W7, r7, A7⟩ := hap.out w6 b6 (some ⟨b, o + r1 * 6, none⟩) (r2 - r1) (lc - r1) HB'
                  replace r7 := hid r7
                  replace A7 := hid A7
                  clear HB'
                  go_wp2_with (first | (at_builtin; refine wpList_append_run rfl (.const (.slice none 0 0)) (.tmp 49) 39 39 rfl (.slice none 0 0) (.slice (some ⟨b, o + r1 * 6, none⟩) (r2 - r1) (lc - r1)) (.slice va vn vc) rfl rfl r7.out ?_))
                  go_ret
                  exact ⟨_, rfl, A7.out⟩
end Go.Proofs.Ytkpihibeohjfnaa.Vx
