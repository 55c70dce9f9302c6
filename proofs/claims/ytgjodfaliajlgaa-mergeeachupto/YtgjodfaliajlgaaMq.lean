/- A merged cursor over lists by its place alone; the law's key and count. -/
import Derived.Test.YtgjodfaliajlgaaMx
namespace Go.Proofs.Ytgjodfaliajlgaa.Mq
open Go.ChangeShapes Go.WideShapes Go.ChangeAt Go.RowKit
open Go.Sort (grow)
open Go.Proofs.Ytgjodfaliajlgaa.Gr hiding hid addr_add
open Go.Proofs.Ytgjodfaliajlgaa.Ik
open Go.Proofs.Ytgjodfaliajlgaa.Ee
open Go.Proofs.Ytgjodfaliajlgaa.Cm (ik)
open Go.Proofs.Ytgjodfaliajlgaa.Sd hiding below_grown
open Go.Proofs.Ytgjodfaliajlgaa.Ml
open Go.Proofs.Ytgjodfaliajlgaa.Mi
open Go.Proofs.Ytgjodfaliajlgaa.Hp
open Go.Proofs.Ytgjodfaliajlgaa.Sk9 (Cut)
open Go.Proofs.Ytgjodfaliajlgaa.Ls9 (Lb c4 hr hv hb)
open Go.Proofs.Ytgjodfaliajlgaa.Gc9
open Go.Proofs.Ytgjodfaliajlgaa.Pm
open Go.Proofs.Ytgjodfaliajlgaa.Mt
open Go.Proofs.Ytgjodfaliajlgaa.My (pos ins_at ins_hb tgt Wk)
open Go.Proofs.Ytgjodfaliajlgaa.Mh (mhere_any mfrom_any fr)
set_option linter.unusedVariables false
set_option linter.unusedSimpArgs false

/-- It stands at p. -/
def Mp (w : World) (gm gs N cs : Nat) (S : List Src) (L : List It) (X : Nat → Prop) (p : Int) : Prop := ∃ bk k, Ms w gm gs N cs S L X bk k ∧ pos bk k = p
section
variable {w : World} {gm gs N cs : Nat} {S : List Src} {L : List It} {X : Nat → Prop} {p : Int}
theorem Mp.later {w' : World} (h : Mp w gm gs N cs S L X p) (b : Below w.heap.size w w') : Mp w' gm gs N cs S L X p := by
  obtain ⟨bk, k, h1, h2⟩ := h
  exact ⟨bk, k, h1.later b, h2⟩
theorem Mp.more {w' : World} (h : Mp w gm gs N cs S L X p) (b : Below w.heap.size w w') : Mp w' gm gs N cs S L (fun j => X j ∨ (w.heap.size ≤ j ∧ j < w'.heap.size)) p := by
  obtain ⟨bk, k, h1, h2⟩ := h
  exact ⟨bk, k, h1.more b, h2⟩
theorem Mp.fp {w' : World} {P : Nat → Prop} (h : Mp w gm gs N cs S L X p) (f : Fp P w w') (hP : ∀ j, P j → X j) : Mp w' gm gs N cs S L X p := by
  obtain ⟨bk, k, M, h2⟩ := h
  exact ⟨bk, k, M.fp f hP, h2⟩
theorem Mp.bd (h : Mp w gm gs N cs S L X p) : -1 ≤ p ∧ p ≤ (L.length : Int) := by
  obtain ⟨bk, k, h1, h2⟩ := h
  have := h1.kl
  rw [← h2]
  unfold pos
  cases bk with
  | false => simp only [Bool.false_eq_true, if_false]; omega
  | true => simp only [if_true]; omega
theorem first_p (h : Mp w gm gs N cs S L X p) :
    Calls Try.prog 29 #[.pointer (some ⟨gm, 0, none⟩)] w fun e w' => e = .returned (.bool (hb L.length 0)) ∧ Mp w' gm gs N cs S L X 0 ∧ Fp (fun j => ¬ X j) w w' := by
  obtain ⟨bk, k, h1, h2⟩ := h
  refine (Mu.first_any h1).mono ?_
  rintro e w' ⟨e1, m, f⟩
  rw [ins_hb L false 0 m.kl] at e1
  exact ⟨e1, ⟨false, 0, m, rfl⟩, f⟩
theorem seek_p (h : Mp w gm gs N cs S L X p) (q : ByteArray) (s c : Int) (m : Nat) (hm : Cut (L.map It.e) (ik q s c) m) :
    Calls Try.prog 35 #[.pointer (some ⟨gm, 0, none⟩), .agg #[.string q, .int .u64 s, .int .i64 c]] w fun e w' => e = .returned (.bool (hb L.length (m : Int))) ∧ Mp w' gm gs N cs S L X (m : Int) ∧ Fp (fun j => ¬ X j) w w' := by
  obtain ⟨bk, k, h1, h2⟩ := h
  refine (Mu.mseek_any h1 q s c m hm).mono ?_
  rintro e w' ⟨e1, mm, f⟩
  rw [ins_hb L false m mm.kl] at e1
  exact ⟨e1, ⟨false, m, mm, rfl⟩, f⟩
theorem next_p (h : Mp w gm gs N cs S L X p) :
    Calls Try.prog 31 #[.pointer (some ⟨gm, 0, none⟩)] w fun e w' => e = .returned (.bool (hb L.length (tgt L.length false p))) ∧ Mp w' gm gs N cs S L X (tgt L.length false p) ∧ Fp (fun j => ¬ X j) w w' := by
  obtain ⟨bk, k, h1, h2⟩ := h
  subst h2
  refine (My.next_any h1).mono ?_
  rintro e w' ⟨b, e1, bk', k', e2, m, f, e3⟩
  rw [e2, ins_hb L bk' k' m.kl, e3] at e1
  exact ⟨e1, ⟨bk', k', m, e3⟩, f⟩
theorem prev_p (h : Mp w gm gs N cs S L X p) :
    Calls Try.prog 34 #[.pointer (some ⟨gm, 0, none⟩)] w fun e w' => e = .returned (.bool (hb L.length (tgt L.length true p))) ∧ Mp w' gm gs N cs S L X (tgt L.length true p) ∧ Fp (fun j => ¬ X j) w w' := by
  obtain ⟨bk, k, h1, h2⟩ := h
  subst h2
  refine (My.prev_any h1).mono ?_
  rintro e w' ⟨b, e1, bk', k', e2, m, f, e3⟩
  rw [e2, ins_hb L bk' k' m.kl, e3] at e1
  exact ⟨e1, ⟨bk', k', m, e3⟩, f⟩
theorem here_p (h : Mp w gm gs N cs S L X p) :
    Calls Try.prog 26 #[.pointer (some ⟨gm, 0, none⟩)] w fun e w' => e = .returned (.tuple #[.agg (hv (L.map It.e) p), .bool (hb L.length p)]) ∧ Below w.heap.size w w' := by
  obtain ⟨bk, k, h1, h2⟩ := h
  subst h2
  exact mhere_any h1
theorem here_at (h : Mp w gm gs N cs S L X p) (j : Nat) (hj : j < L.length) (hp : p = (j : Int)) :
    Calls Try.prog 26 #[.pointer (some ⟨gm, 0, none⟩)] w fun e w' => e = .returned (.tuple #[.agg #[.string (L.getD j zi).e.k, .int .u64 (L.getD j zi).e.s, .int .i64 (L.getD j zi).e.c, .string (L.getD j zi).e.v], .bool true]) ∧ Below w.heap.size w w' := by
  have := here_p h
  subst hp
  unfold hv at this
  rw [Mh.hr_map hj] at this
  have e : hb L.length (j : Int) = true := by unfold hb; rw [decide_eq_true (show (0 : Int) ≤ (j : Int) by omega), decide_eq_true (show (j : Int) < (L.length : Int) by omega)]; rfl
  rw [e] at this
  exact this
theorem from_at (h : Mp w gm gs N cs S L X p) (j : Nat) (hj : j < L.length) (hp : p = (j : Int)) :
    Calls Try.prog 27 #[.pointer (some ⟨gm, 0, none⟩)] w fun e w' => e = .returned (.int .i64 ((L.getD j zi).f : Int)) ∧ Below w.heap.size w w' := by
  obtain ⟨bk, k, h1, h2⟩ := h
  have := mfrom_any h1
  rw [h2, hp] at this
  unfold fr at this
  have e : hb L.length (j : Int) = true := by unfold hb; rw [decide_eq_true (show (0 : Int) ≤ (j : Int) by omega), decide_eq_true (show (j : Int) < (L.length : Int) by omega)]; rfl
  rw [e, if_pos rfl, show ((j : Int)).toNat = j by omega] at this
  exact this
theorem from_out (h : Mp w gm gs N cs S L X p) (hp : hb L.length p = false) :
    Calls Try.prog 27 #[.pointer (some ⟨gm, 0, none⟩)] w fun e w' => e = .returned (.int .i64 (-1)) ∧ Below w.heap.size w w' := by
  obtain ⟨bk, k, h1, h2⟩ := h
  have := mfrom_any h1
  rw [h2] at this
  unfold fr at this
  rw [hp, if_neg (by simp)] at this
  exact this
theorem here_out (h : Mp w gm gs N cs S L X p) (hp : hb L.length p = false) :
    Calls Try.prog 26 #[.pointer (some ⟨gm, 0, none⟩)] w fun e w' => e = .returned (.tuple #[.agg #[.string ⟨#[]⟩, .int .u64 0, .int .i64 0, .string ⟨#[]⟩], .bool false]) ∧ Below w.heap.size w w' := by
  have := here_p h
  unfold hv at this
  rw [Mh.hr_none hp, hp] at this
  exact this
end
theorem lkey_any (k : ByteArray) (s c : Int) (v : ByteArray) (w : World) :
    Calls Try.prog 33 #[.agg #[.string k, .int .u64 s, .int .i64 c, .string v]] w fun e w' => e = .returned (.agg #[.string k, .int .u64 s, .int .i64 c]) ∧ Below w.heap.size w w' := by
  go_enter Try.func33, Try.ntmps33
  go_wp2
  exact bodyPost_ret (v := .agg #[.string k, .int .u64 s, .int .i64 c]) (by simp [results, Try.results33, go_sem]) rfl ⟨rfl, ((Below.refl _ _).alloc (Nat.le_refl _) _).alloc (by simp) _⟩
/-- How many are not below a key. -/
def cb (q : IK) (xs : List E) : Nat := (xs.filter (fun x => !decide (cmp x.ik q < 0))).length
theorem cb_app (q : IK) (a b : List E) : cb q (a ++ b) = cb q a + cb q b := by unfold cb; rw [List.filter_append, List.length_append]
theorem cb_one (q : IK) (x : E) : cb q [x] = if cmp x.ik q < 0 then 0 else 1 := by
  unfold cb
  by_cases h : cmp x.ik q < 0
  · rw [if_pos h, List.filter_cons_of_neg (by rw [decide_eq_true h]; simp)]; rfl
  · rw [if_neg h, List.filter_cons_of_pos (by rw [decide_eq_false h]; rfl)]; rfl
theorem cb_le (q : IK) (xs : List E) : cb q xs ≤ xs.length := List.length_filter_le _ _
theorem cb_snoc (q : IK) {xs : List E} {j : Nat} (h : j < xs.length) : cb q (xs.take (j + 1)) = cb q (xs.take j) + if cmp (xs.getD j ze).ik q < 0 then 0 else 1 := by
  rw [List.take_add_one, List.getElem?_eq_getElem h, getD_get ze h]
  simp only [Option.toList_some]
  rw [cb_app, cb_one]
theorem cb_pos (q : IK) (xs : List E) : 0 < cb q xs ↔ ∃ x ∈ xs, ¬ cmp x.ik q < 0 := by
  unfold cb
  rw [List.length_pos_iff_exists_mem]
  constructor
  · rintro ⟨x, hx⟩
    obtain ⟨h1, h2⟩ := List.mem_filter.1 hx
    exact ⟨x, h1, by simpa using h2⟩
  · rintro ⟨x, h1, h2⟩
    exact ⟨x, List.mem_filter.2 ⟨h1, by simpa using h2⟩⟩
set_option maxHeartbeats 2000000 in
set_option maxRecDepth 20000 in
theorem count_any (a : Option Addr) (n c : Nat) (fs : List Lf) (k : ByteArray) (s z : Int) (w : World) (H : Lsts w a n c fs) (hn8 : n ≤ 1048576) (ht8 : tot fs ≤ 1048576) :
    Calls Try.prog 36 #[.slice a n c, .agg #[.string k, .int .u64 s, .int .i64 z]] w fun e w' => e = .returned (.int .i64 (cb (ik k s z) (all fs) : Int)) ∧ Below w.heap.size w w' := by
  have hlen : Hid (fs.length = n) := H.s.n
  have hnc := H.s.c
  obtain ⟨W, hW⟩ : ∃ W, W = w.alloc (.cells #[.string k, .int .u64 s, .int .i64 z] 33) := ⟨_, rfl⟩
  obtain ⟨g, hg⟩ : ∃ g, g = w.heap.size := ⟨_, rfl⟩
  have BW : Below w.heap.size w W := by rw [hW]; exact box_below _ _
  have KB : Hid (W.heap[g]? = some (.cells #[.string k, .int .u64 s, .int .i64 z] 33)) := by show _ = _; rw [hW, hg]; exact new_at _ _
  have HL : Hid (∀ V, Below W.heap.size W V → Lsts V a n c fs) := fun V b => H.later (Below.up BW b)
  replace BW := hid BW
  replace hW := hid hW
  replace hg := hid hg
  replace ht8 := hid ht8
  clear H
  go_enter Try.func36, Try.ntmps36
  go_wp2_with fail
  rw [← hW.out, ← hg.out]
  go_loopw [5, 6] (fun nv iv wr => ∃ (i q : Nat), nv = .int .i64 (q : Int) ∧ iv = .int .i64 (i : Int) ∧ i ≤ n ∧ Hid (q = cb (ik k s z) (all (fs.take i))) ∧ Hid (Below W.heap.size W wr)) (fun _ iv _ => n - (intOf iv).toNat)
  case atStart => exact ⟨0, 0, by first | rfl | go_num, rfl, Nat.zero_le _, rfl, Below.refl _ _⟩
  case round =>
    obtain ⟨i, q, rfl, rfl, hi, hq, B⟩ := hrel
    by_cases hlt : i < n
    · have hall : Hid (all (fs.take (i + 1)) = all (fs.take i) ++ (fs.getD i zl).xs) := tot_snoc (by rw [hlen.out]; exact hlt)
      have htt : Hid ((all (fs.take (i + 1))).length ≤ 1048576) := by show _ ≤ _; have := tot_take fs (i + 1); have := ht8.out; omega
      have m0 : (i : Int) < (n : Int) := by omega
      have m1 : (0 : Int) ≤ (i : Int) := by omega
      obtain ⟨b0, o0, ha0, hc0, HE0⟩ := (HL.out wr B.out).at_ i hlt
      subst ha0
      have hfn : Hid ((fs.getD i zl).xs.length = (fs.getD i zl).n) := HE0.1
      obtain ⟨wo, hwo⟩ : ∃ V, V = wr := ⟨_, rfl⟩
      rw [← hwo] at B ⊢
      clear hc0 HE0 hwo
      obtain ⟨F, hF⟩ : ∃ F, F = fs.getD i zl := ⟨_, rfl⟩
      rw [← hF] at hall hfn
      go_wp2_with fail
      go_loopw [5, 7] (fun nv jv wr => ∃ (j q2 : Nat), nv = .int .i64 (q2 : Int) ∧ jv = .int .i64 (j : Int) ∧ j ≤ F.n ∧ Hid (q2 = q + cb (ik k s z) (F.xs.take j)) ∧ Hid (Below W.heap.size W wr)) (fun _ jv _ => F.n - (intOf jv).toNat)
      case atStart => exact ⟨0, q, rfl, rfl, Nat.zero_le _, rfl, B⟩
      case round =>
        clear B
        obtain ⟨j, q2, rfl, rfl, hj, hq2, B⟩ := hrel
        obtain ⟨b, o, ha, hc, HE⟩ := (HL.out wr B.out).at_ i hlt
        injection ha with ha; injection ha with h1 h2
        subst h1 h2
        rw [← hF] at hc HE
        by_cases hjn : j < F.n
        · have j0 : (j : Int) < (F.n : Int) := by omega
          have j1 : (0 : Int) ≤ (j : Int) := by omega
          obtain ⟨bx, ox, hax, hx⟩ := sl_at (Sd.sl_of HE) j hjn
          have hx := at4_of hx
          rw [show eE.k = 4 from rfl, show eE.z = ze from rfl] at hx
          obtain ⟨x, hxx⟩ : ∃ x, x = F.xs.getD j ze := ⟨_, rfl⟩
          rw [← hxx] at hx
          have hsn : Hid (cb (ik k s z) (F.xs.take (j + 1)) = cb (ik k s z) (F.xs.take j) + if cmp x.ik (ik k s z) < 0 then 0 else 1) := by
            show _ = _
            rw [hxx]; exact cb_snoc _ (by rw [hfn.out]; exact hjn)
          have hb8 : Hid (q + cb (ik k s z) (F.xs.take (j + 1)) ≤ 1048576) := by
            have e1 := cb_le (ik k s z) (all (fs.take i))
            have e2 := cb_le (ik k s z) (F.xs.take (j + 1))
            have e3 := congrArg List.length hall.out
            rw [List.length_append] at e3
            rw [List.length_take] at e2
            have e4 := htt.out
            have e5 := hq.out
            show _ ≤ _
            omega
          obtain ⟨⟨xk, xs, xc, xv⟩, rfl⟩ : ∃ y, y = x := ⟨_, rfl⟩
          obtain ⟨x0, x1, x2, x3⟩ := hx
          dsimp only at x0 x1 x2 x3
          have hkey : E.ik ⟨xk, xs, xc, xv⟩ = ik xk xs xc := rfl
          rw [hkey] at hsn
          obtain ⟨C, hC⟩ : ∃ C, C = cmp (ik xk xs xc) (ik k s z) := ⟨_, rfl⟩
          rw [← hC] at hsn
          have HC : Hid (∀ V, Calls Try.prog 32 #[.agg #[.string xk, .int .u64 xs, .int .i64 xc], .agg #[.string k, .int .u64 s, .int .i64 z]] V fun e w' => e = .returned (.int .i64 C) ∧ Below V.heap.size V w') := fun V => by rw [hC]; exact compare_below _ _ _ _ _ _ V
          have HK : Hid (∀ V, Calls Try.prog 33 #[.agg #[.string xk, .int .u64 xs, .int .i64 xc, .string xv]] V fun e w' => e = .returned (.agg #[.string xk, .int .u64 xs, .int .i64 xc]) ∧ Below V.heap.size V w') := fun V => lkey_any xk xs xc xv V
          have kb := (B.out.block g (blk_lt KB.out)).trans KB.out
          have z0 := cell_regrown (cell_of kb 0 _ rfl)
          have z1 := cell_regrown (cell_of kb 1 _ rfl)
          have z2 := cell_regrown (cell_of kb 2 _ rfl)
          rw [hax] at hc
          have hcc := hc
          replace hc := cell_regrown hc
          replace x0 := cell_regrown x0
          replace x1 := cell_regrown x1
          replace x2 := cell_regrown x2
          replace x3 := cell_regrown x3
          have hj8 : IntKind.i64.wrap ((j : Int) + 1) = ((j + 1 : Nat) : Int) := by
            have := HE.2.1
            have := hfn.out
            have e3 := congrArg List.length hall.out
            rw [List.length_append] at e3
            have := htt.out
            rw [IntKind.wrap_i64]; omega
          replace hC := hid hC
          replace hxx := hid hxx
          replace hkey := hid hkey
          replace hF := hid hF
          clear kb HE hax
          go_wp2_with fail
          refine wp_region_quiet_below (by kernel_rfl) (by kernel_rfl) ?_
          repeat (first | go_big_quiet_step (first | (go_at_call 33; exact Calls.regrown_of (HK.out _)) | (go_at_call 32; exact Calls.regrown_of (HC.out _))) | quiet_step (first | (go_at_call 33; exact Calls.regrown_of (HK.out _)) | (go_at_call 32; exact Calls.regrown_of (HC.out _))))
          refine wpQuiet_nil ?_
          intro w5 hw5
          have b5 : Below wr.heap.size wr w5 := by
            obtain ⟨⟨dq, osq⟩, hw''⟩ := hw5
            rw [hw'']
            exact below_regrown _ dq osq
          have B5 := hid (Below.up B.out b5)
          clear hw5 b5 z0 z1 z2 x0 x1 x2 x3 hc HC HK
          by_cases hCC : C < 0
          · have hC2 : decide ((0 : Int) ≤ C) = false := decide_eq_false (by omega)
            have hC3 : ¬ (0 : Int) ≤ C := by omega
            have hs2 : Hid (q2 = q + cb (ik k s z) (F.xs.take (j + 1))) := by show _ = _; rw [hsn.out, if_pos hCC]; exact hq2.out
            clear hCC
            go_wp2_with fail
            go_roundw
            case rel => exact ⟨j + 1, q2, rfl, by first | rfl | go_num, by omega, hs2, B5⟩
            case measure => simp [intOf]; omega
          · have hC2 : decide ((0 : Int) ≤ C) = true := decide_eq_true (by omega)
            have hC3 : (0 : Int) ≤ C := by omega
            have hs2 : Hid (q2 + 1 = q + cb (ik k s z) (F.xs.take (j + 1))) := by show _ = _; rw [hsn.out, if_neg hCC]; have := hq2.out; omega
            have hq8 : IntKind.i64.wrap ((q2 : Int) + 1) = ((q2 + 1 : Nat) : Int) := by have := hs2.out; have := hb8.out; rw [IntKind.wrap_i64]; omega
            clear hCC
            go_wp2_with fail
            go_roundw
            case rel => exact ⟨j + 1, q2 + 1, by first | rfl | go_num, by first | rfl | go_num, by omega, hs2, B5⟩
            case measure => simp [intOf]; omega
        · have j0 : ¬ (j : Int) < (F.n : Int) := by omega
          have hq3 : Hid (q2 = cb (ik k s z) (all (fs.take (i + 1)))) := by
            show _ = _
            rw [hall.out, cb_app, hq2.out, hq.out, show j = F.xs.length by rw [hfn.out]; omega, List.take_length]
          clear HE
          replace hF := hid hF
          go_wp2_with fail
          go_roundw
          case rel => exact ⟨i + 1, q2, rfl, by first | rfl | go_num, by omega, hq3, B⟩
          case measure => simp [intOf]; omega
    · have hie : i = n := by omega
      subst hie
      have hq3 : Hid (q = cb (ik k s z) (all fs)) := by show _ = _; rw [hq.out, ← hlen.out, List.take_length]
      have hBw := hid (Below.up BW.out B.out)
      clear hq B
      go_wp2_with fail
      go_ret
      exact ⟨by rw [hq3.out]; rfl, hBw.out⟩
end Go.Proofs.Ytgjodfaliajlgaa.Mq
