/- The document's small calls: Compare of keys, key, May, count, place. -/
import Derived.Test.YtefihoohdaegeaaOg
namespace Go.Proofs.Ytefihoohdaegeaa.Da
open Go.ChangeShapes Go.WideShapes Go.ChangeAt Go.RowKit Go.Shelf
open Go.Sort (grow)
open Go.Proofs.Ytefihoohdaegeaa.Lx (hid lt)
open Go.Proofs.Ytefihoohdaegeaa.Ik
open Go.Proofs.Ytefihoohdaegeaa.Kd
open Go.Proofs.Ytefihoohdaegeaa.Cm
open Go.Proofs.Ytefihoohdaegeaa.Ck
open Go.Proofs.Ytefihoohdaegeaa.Ee (E ze Ents)
open Go.Proofs.Ytefihoohdaegeaa.Mm (box_below)
open Go.Proofs.Ytefihoohdaegeaa.Tr (new_at cell_of size_alloc blk_lt fz_of set_of)
open Go.Proofs.Ytefihoohdaegeaa.Li (drewN_below)
set_option linter.unusedVariables false
set_option linter.unusedSimpArgs false
theorem toList_inj {a b : ByteArray} (h : a.toList = b.toList) : a = b := by
  rw [ByteArray.toList_eq, ByteArray.toList_eq] at h
  obtain ⟨⟨la⟩⟩ := a
  obtain ⟨⟨lb⟩⟩ := b
  simp at h
  rw [h]
theorem data_inj' {a b : ByteArray} (h : a.data.toList = b.data.toList) : a = b := by
  obtain ⟨⟨la⟩⟩ := a
  obtain ⟨⟨lb⟩⟩ := b
  simp at h
  rw [h]

theorem less_eq : ∀ (x y : Tx), Op.bytesLess x y = decide (x < y)
  | [], [] => by simp [Op.bytesLess]
  | _ :: _, [] => by simp [Op.bytesLess]
  | [], _ :: _ => by simp [Op.bytesLess]
  | a :: x, b :: y => by
    rw [Op.bytesLess, less_eq x y]
    rw [Bool.eq_iff_iff]
    simp [lt_cons]
theorem less_yes {a b : ByteArray} (h : a.data.toList < b.data.toList) : Op.bytesLess a.toList b.toList = true := by
  rw [less_eq, ByteArray.toList_eq, ByteArray.toList_eq]; exact decide_eq_true h
theorem less_no {a b : ByteArray} (h : ¬ a.data.toList < b.data.toList) : Op.bytesLess a.toList b.toList = false := by
  rw [less_eq, ByteArray.toList_eq, ByteArray.toList_eq]; exact decide_eq_false h
theorem text_ne {a b : ByteArray} (h : ¬ a = b) : (a.toList == b.toList) = false := by
  rw [beq_eq_false_iff_ne]; exact fun e => h (toList_inj e)

theorem rcompare_any (a : ByteArray) (s k : Int) (b : ByteArray) (t m : Int) (w : World) :
    Calls Try.prog 84 #[.agg #[.string a, .int .u64 s, .int .i64 k], .agg #[.string b, .int .u64 t, .int .i64 m]] w fun e w' => e = .returned (.int .i64 (cmp (ik a s k) (ik b t m))) ∧ Below w.heap.size w w' := by
  by_cases e1 : a = b
  · subst e1
    have i1 := lt_irrefl a.data.toList
    by_cases e2 : s = t
    · subst e2
      by_cases e3 : k = m
      · subst e3
        have E : Hid (0 = cmp (ik a s k) (ik a s k)) := (cmp_self _).symm
        go_enter Try.func84, Try.ntmps84
        go_wp2
        go_ret
        exact ⟨ret_int E.out, ((Below.refl _ _).alloc (Nat.le_refl _) _).alloc (by simp) _⟩
      · have n3 : (k != m) = true := by simpa using e3
        by_cases h : m < k
        · have E : Hid (-1 = cmp (ik a s k) (ik a s m)) := by show _ = _; unfold cmp ik; simp [i1, h]
          clear i1
          go_enter Try.func84, Try.ntmps84
          go_wp2
          go_ret
          exact ⟨ret_int E.out, ((Below.refl _ _).alloc (Nat.le_refl _) _).alloc (by simp) _⟩
        · have h' : k < m := by omega
          have E : Hid (1 = cmp (ik a s k) (ik a s m)) := by show _ = _; unfold cmp ik; simp [i1, h, h']
          clear i1
          go_enter Try.func84, Try.ntmps84
          go_wp2
          go_ret
          exact ⟨ret_int E.out, ((Below.refl _ _).alloc (Nat.le_refl _) _).alloc (by simp) _⟩
    · have n2 : (s != t) = true := by simpa using e2
      by_cases h : t < s
      · have E : Hid (-1 = cmp (ik a s k) (ik a t m)) := by show _ = _; unfold cmp ik; simp [i1, h]
        clear i1
        go_enter Try.func84, Try.ntmps84
        go_wp2
        go_ret
        exact ⟨ret_int E.out, ((Below.refl _ _).alloc (Nat.le_refl _) _).alloc (by simp) _⟩
      · have h' : s < t := by omega
        have E : Hid (1 = cmp (ik a s k) (ik a t m)) := by show _ = _; unfold cmp ik; simp [i1, h, h']
        clear i1
        go_enter Try.func84, Try.ntmps84
        go_wp2
        go_ret
        exact ⟨ret_int E.out, ((Below.refl _ _).alloc (Nat.le_refl _) _).alloc (by simp) _⟩
  · have n1 := text_ne e1
    by_cases h : a.data.toList < b.data.toList
    · have E : Hid (-1 = cmp (ik a s k) (ik b t m)) := by show _ = _; unfold cmp ik; simp only [h, if_true]
      have l1 := less_yes h
      clear h
      go_enter Try.func84, Try.ntmps84
      go_wp2
      go_ret
      exact ⟨ret_int E.out, ((Below.refl _ _).alloc (Nat.le_refl _) _).alloc (by simp) _⟩
    · have h' : b.data.toList < a.data.toList := by
        rcases lt_total a.data.toList b.data.toList with l | l | l
        · exact absurd l h
        · exact absurd (data_inj' l) e1
        · exact l
      have E : Hid (1 = cmp (ik a s k) (ik b t m)) := by show _ = _; unfold cmp ik; simp only [h, h', if_true, if_false]
      have l1 := less_no h
      clear h h'
      go_enter Try.func84, Try.ntmps84
      go_wp2
      go_ret
      exact ⟨ret_int E.out, ((Below.refl _ _).alloc (Nat.le_refl _) _).alloc (by simp) _⟩

theorem rkey_any (k : ByteArray) (s c : Int) (v : ByteArray) (w : World) : Calls Try.prog 56 #[.agg #[.string k, .int .u64 s, .int .i64 c, .string v]] w fun e w' => e = .returned (.agg #[.string k, .int .u64 s, .int .i64 c]) ∧ Below w.heap.size w w' := by
  have B := hid (((Below.refl w.heap.size w).alloc (Nat.le_refl _) (.cells #[.string k, .int .u64 s, .int .i64 c, .string v] 56)).alloc (by simp) (.cells #[.string k, .int .u64 s, .int .i64 c] 48))
  go_enter Try.func56, Try.ntmps56
  go_wp2
  exact bodyPost_ret (v := .agg #[.string k, .int .u64 s, .int .i64 c]) (by simp [results, Try.results56, go_sem]) rfl ⟨rfl, B.out⟩
theorem rmay_any (c : Int) (k v : ByteArray) (w : World) (hk : k.size ≤ maxLen) (hv : v.size ≤ maxLen) :
    Calls Try.prog 53 #[.agg #[.int .i64 c, .string k, .string v]] w fun e w' => e = .returned (.bool (may c k v)) ∧ Below w.heap.size w w' := by
  unfold maxLen at hk hv
  obtain ⟨R, hR⟩ : ∃ R, R = may c k v := ⟨_, rfl⟩
  rw [← hR]
  have B := hid (box_below w (.cells #[.int .i64 c, .string k, .string v] 32))
  have e0 := hid (size_zero v)
  cases h1 : sizeB (k.size : Int)
  · have E : Hid (false = R) := by show _ = _; rw [hR]; unfold may; simp [h1]
    have h1' := size_false h1
    clear hR e0 h1
    by_cases hz : (k.size : Int) < 1
    · go_enter Try.func53, Try.ntmps53
      go_wp2
      go_ret
      exact ⟨ret_bool E.out, B.out⟩
    · have hz2 : (1024 : Int) < (k.size : Int) := by omega
      go_enter Try.func53, Try.ntmps53
      go_wp2
      go_ret
      exact ⟨ret_bool E.out, B.out⟩
  · have h1' := size_true h1
    have z1 : ¬ (k.size : Int) < 1 := by omega
    have z2 : ¬ (1024 : Int) < (k.size : Int) := by omega
    by_cases h2 : c = 0
    · have E : Hid (decide (v.size = 0) = R) := by show _ = _; rw [hR]; unfold may; simp [h1, h2]
      subst h2
      clear hR h1
      go_enter Try.func53, Try.ntmps53
      go_wp2
      go_ret
      refine ⟨?_, B.out⟩
      rw [← E.out, ← e0.out]
      first | rfl | (cases hv0 : v.toList <;> simp)
    · have e2 : (c == 0) = false := beq_eq_false_iff_ne.2 h2
      by_cases h3 : c = 1
      · have E : Hid (decide ((v.size : Int) ≤ 65536) = R) := by show _ = _; rw [hR]; unfold may; simp [h1, h3]
        subst h3
        clear hR e0 h2 e2 h1
        go_enter Try.func53, Try.ntmps53
        go_wp2
        go_ret
        exact ⟨ret_bool E.out, B.out⟩
      · have e3 : (c == 1) = false := beq_eq_false_iff_ne.2 h3
        by_cases h4 : c = 2
        · cases h5 : sizeB (v.size : Int)
          · have E : Hid (false = R) := by show _ = _; rw [hR]; unfold may; simp [h1, h4, h5]
            have h5' := size_false h5
            subst h4
            clear hR e0 h2 e2 h3 e3 h1 h5
            by_cases hz : (1 : Int) ≤ (v.size : Int)
            · have hz2 : ¬ (v.size : Int) ≤ 1024 := by omega
              go_enter Try.func53, Try.ntmps53
              go_wp2
              go_ret
              exact ⟨ret_bool E.out, B.out⟩
            · go_enter Try.func53, Try.ntmps53
              go_wp2
              go_ret
              exact ⟨ret_bool E.out, B.out⟩
          · have E : Hid (lt k v = R) := by show _ = _; rw [hR]; unfold may; simp [h1, h4, h5]
            have h5' := size_true h5
            have y1 : (1 : Int) ≤ (v.size : Int) := h5'.1
            have y2 : (v.size : Int) ≤ 1024 := h5'.2
            subst h4
            clear hR e0 h2 e2 h3 e3 h1 h5
            go_enter Try.func53, Try.ntmps53
            go_wp2
            go_ret
            exact ⟨ret_bool E.out, B.out⟩
        · have e4 : (c == 2) = false := beq_eq_false_iff_ne.2 h4
          have E : Hid (false = R) := by show _ = _; rw [hR]; unfold may; simp [h2, h3, h4]
          clear hR e0 h2 h3 h4 h1
          go_enter Try.func53, Try.ntmps53
          go_wp2
          go_ret
          exact ⟨ret_bool E.out, B.out⟩
/-- A table of the document's, as a value. -/
def rt (log : Int) (ve vt : Value) (len sz lo hi : Int) (dn : Bool) : Array Value := #[.int .i64 log, ve, vt, .int .i64 len, .int .i64 sz, .int .u64 lo, .int .u64 hi, .bool dn]
set_option maxHeartbeats 2000000 in
theorem rcount_any (log : Int) (ea ta : Option Addr) (el ec tl tc : Nat) (len sz lo hi : Int) (dn : Bool) (q c : Int) (k v : ByteArray) (w : World) (h1 : 0 ≤ len ∧ len ≤ 4000000000000000000) (h2 : 0 ≤ sz ∧ sz ≤ 4000000000000000000) (h3 : k.size ≤ 1000000) (h4 : v.size ≤ 1000000) :
    Calls Try.prog 54 #[.agg #[.int .i64 log, .slice ea el ec, .slice ta tl tc, .int .i64 len, .int .i64 sz, .int .u64 lo, .int .u64 hi, .bool dn], .int .u64 q, .agg #[.int .i64 c, .string k, .string v]] w fun e w' => e = .returned (.agg #[.int .i64 log, .slice ea el ec, .slice ta tl tc, .int .i64 (len + 1), .int .i64 (sz + (16 + (k.size : Int) + v.size)), .int .u64 (if len = 0 ∨ q < lo then q else lo), .int .u64 (max hi q), .bool dn]) ∧ Below w.heap.size w w' := by
  have B := hid (fun (a b c : Obj) => (((Below.refl w.heap.size w).alloc (Nat.le_refl _) a).alloc (by simp) b).alloc (by simp; omega) c)
  have e1 : len + 1 ≤ 9000000000000000000 := by omega
  obtain ⟨R, hR⟩ : ∃ R, R = (if len = 0 ∨ q < lo then q else lo) := ⟨_, rfl⟩
  rw [← hR]
  by_cases hl : len = 0
  · rw [if_pos (.inl hl)] at hR
    subst hR
    subst hl
    go_enter Try.func54, Try.ntmps54
    go_wp2
    exact bodyPost_ret (v := .agg #[.int .i64 log, .slice ea el ec, .slice ta tl tc, .int .i64 (0 + 1), .int .i64 (sz + (16 + (k.size : Int) + v.size)), .int .u64 R, .int .u64 (max hi R), .bool dn]) (by simp [results, Try.results54, go_sem]) rfl ⟨rfl, B.out _ _ _⟩
  · have hl' : (len == 0) = false := beq_eq_false_iff_ne.2 hl
    by_cases hq : q < lo
    · rw [if_pos (.inr hq)] at hR
      subst hR
      go_enter Try.func54, Try.ntmps54
      go_wp2
      exact bodyPost_ret (v := .agg #[.int .i64 log, .slice ea el ec, .slice ta tl tc, .int .i64 (len + 1), .int .i64 (sz + (16 + (k.size : Int) + v.size)), .int .u64 R, .int .u64 (max hi R), .bool dn]) (by simp [results, Try.results54, go_sem]) rfl ⟨rfl, B.out _ _ _⟩
    · rw [if_neg (by omega)] at hR
      subst hR
      go_enter Try.func54, Try.ntmps54
      go_wp2
      exact bodyPost_ret (v := .agg #[.int .i64 log, .slice ea el ec, .slice ta tl tc, .int .i64 (len + 1), .int .i64 (sz + (16 + (k.size : Int) + v.size)), .int .u64 R, .int .u64 (max hi q), .bool dn]) (by simp [results, Try.results54, go_sem]) rfl ⟨rfl, B.out _ _ _⟩
/-! ### place -/
def plc (es : List E) (k : IK) : Nat := (es.filter fun x => decide (cmp x.ik k < 0)).length
theorem plc_le (es : List E) (k : IK) : plc es k ≤ es.length := List.length_filter_le _ _
theorem srt_split (k : IK) : ∀ es : List E, es.Pairwise (fun a b => cmp a.ik b.ik < 0) → es = (es.filter fun x => decide (cmp x.ik k < 0)) ++ es.filter fun x => !decide (cmp x.ik k < 0)
  | [], _ => rfl
  | x :: l, h => by
    obtain ⟨h1, h2⟩ := List.pairwise_cons.1 h
    have ih := srt_split k l h2
    by_cases hx : cmp x.ik k < 0
    · rw [List.filter_cons_of_pos (by simpa using hx), List.filter_cons_of_neg (by simpa using hx), List.cons_append, ← ih]
    · have hno : (l.filter fun x => decide (cmp x.ik k < 0)) = [] := by
        rw [List.filter_eq_nil_iff]
        intro y hy hyk
        have a := h1 y hy
        have b : cmp y.ik k < 0 := by simpa using hyk
        exact hx (Sg.cmp_lt_trans a b)
      rw [hno, List.nil_append] at ih
      rw [List.filter_cons_of_neg (by simpa using hx), List.filter_cons_of_pos (by simpa using hx), hno, List.nil_append, ← ih]
theorem plc_iff {es : List E} (h : es.Pairwise (fun a b => cmp a.ik b.ik < 0)) (k : IK) (i : Nat) (x : E) (hx : es[i]? = some x) : cmp x.ik k < 0 ↔ i < plc es k := by
  have e := srt_split k es h
  unfold plc
  constructor
  · intro hb
    by_cases hi : i < (es.filter fun x => decide (cmp x.ik k < 0)).length
    · exact hi
    · exfalso
      rw [e, List.getElem?_append_right (by omega)] at hx
      have := List.mem_filter.1 (List.mem_of_getElem? hx)
      simp [hb] at this
  · intro hi
    rw [e, List.getElem?_append_left hi] at hx
    simpa using (List.mem_filter.1 (List.mem_of_getElem? hx)).2
set_option maxHeartbeats 4000000 in
set_option maxRecDepth 100000 in
theorem rplace_any (a : Option Addr) (M cap : Nat) (es : List E) (k : ByteArray) (s c : Int) (w : World) (H : Ents w a M cap es) (hM1 : M ≤ 1048576) (hs : es.Pairwise (fun a b => cmp a.ik b.ik < 0)) :
    Calls Try.prog 55 #[.slice a M cap, .agg #[.string k, .int .u64 s, .int .i64 c]] w fun e w' => e = .returned (.int .i64 (plc es (ik k s c) : Int)) ∧ Below w.heap.size w w' := by
  obtain ⟨gk, hgk⟩ : ∃ gk, gk = w.heap.size := ⟨_, rfl⟩
  obtain ⟨W1, hW1⟩ : ∃ W, W = w.alloc (.cells #[.string k, .int .u64 s, .int .i64 c] 48) := ⟨_, rfl⟩
  have B1 : Below w.heap.size w W1 := by rw [hW1]; exact box_below _ _
  have K1 : W1.heap[gk]? = some (.cells #[.string k, .int .u64 s, .int .i64 c] 48) := by rw [hW1, hgk]; exact new_at _ _
  have H1 := hid (Ee.Ents.later H B1)
  have hpl := plc_le es (ik k s c)
  have hxl := H.1
  rw [hxl] at hpl
  obtain ⟨P, hP⟩ : ∃ P, P = plc es (ik k s c) := ⟨_, rfl⟩
  rw [← hP] at hpl
  replace hP := hid hP
  replace hW1 := hid hW1
  replace hgk := hid hgk
  replace B1 := hid B1
  replace K1 := hid K1
  replace hxl := hid hxl
  replace hs := hid hs
  clear H
  go_enter Try.func55, Try.ntmps55
  go_wp2_with fail
  rw [← hW1.out, ← hgk.out]
  go_loopw [5, 6] (fun lv hv wr => ∃ lo hi : Nat, lv = .int .i64 (lo : Int) ∧ hv = .int .i64 (hi : Int) ∧ lo ≤ P ∧ P ≤ hi ∧ hi ≤ M ∧ Hid (Below W1.heap.size W1 wr)) (fun lv hv _ => (intOf hv - intOf lv).toNat)
  case atStart => exact ⟨0, M, rfl, rfl, Nat.zero_le _, hpl, Nat.le_refl _, Below.refl _ _⟩
  case round =>
    obtain ⟨lo, hi, rfl, rfl, h1, h2, h3, HB⟩ := hrel
    by_cases hlt : lo < hi
    · obtain ⟨mid, hmid⟩ : ∃ mid, mid = (lo + hi) / 2 := ⟨_, rfl⟩
      have hm1 : lo ≤ mid := by omega
      have hm2 : mid < hi := by omega
      have Hr := Ee.Ents.later H1.out HB.out
      obtain ⟨ad, rfl⟩ : ∃ ad, a = some ad := by
        cases a with
        | none => have := (Hr.2.2.1 rfl).1; omega
        | some ad => exact ⟨ad, rfl⟩
      obtain ⟨pb, po, psp⟩ := ad
      obtain ⟨hsp, hat⟩ := Hr.2.2.2.2 pb po psp rfl (by omega)
      subst hsp
      have hcp := Hr.2.1
      have hn : es[mid]? = some (es.getD mid ze) := by
        rw [List.getD_eq_getElem?_getD, List.getElem?_eq_getElem (by have := hxl.out; omega)]; rfl
      have hpi := plc_iff hs.out (ik k s c) mid _ hn
      rw [← hP.out] at hpi
      obtain ⟨p0, p1, p2, p3⟩ := hat mid (by omega)
      have Kr := (HB.out.block gk (blk_lt K1.out)).trans K1.out
      obtain ⟨⟨yk, ys, yc, yv⟩, hy⟩ : ∃ y, y = es.getD mid ze := ⟨_, rfl⟩
      rw [← hy] at p0 p1 p2 p3 hpi
      dsimp only at p0 p1 p2 p3
      have HCm : Hid (∀ W, Calls Try.prog 84 #[.agg #[.string yk, .int .u64 ys, .int .i64 yc], .agg #[.string k, .int .u64 s, .int .i64 c]] W fun e w' => e = .returned (.int .i64 (cmp (ik yk ys yc) (ik k s c))) ∧ Below W.heap.size W w') := fun W => rcompare_any _ _ _ _ _ _ W
      have HKy : Hid (∀ W, Calls Try.prog 56 #[.agg #[.string yk, .int .u64 ys, .int .i64 yc, .string yv]] W fun e w' => e = .returned (.agg #[.string yk, .int .u64 ys, .int .i64 yc]) ∧ Below W.heap.size W w') := fun W => rkey_any _ _ _ _ W
      have hpi' : cmp (ik yk ys yc) (ik k s c) < 0 ↔ mid < P := hpi
      have d0 := fun d os => cell_regrown p0 d os
      have d1 := fun d os => cell_regrown p1 d os
      have d2 := fun d os => cell_regrown p2 d os
      have d3 := fun d os => cell_regrown p3 d os
      have d6 := fun d os => cell_regrown (cell_of Kr 0 (.string k) rfl) d os
      have d7 := fun d os => cell_regrown (cell_of Kr 1 (.int .u64 s) rfl) d os
      have d8 := fun d os => cell_regrown (cell_of Kr 2 (.int .i64 c) rfl) d os
      generalize cmp (ik yk ys yc) (ik k s c) = C at *
      have i1 : (lo : Int) < (hi : Int) := by omega
      have i2 : (mid : Int) < (M : Int) := by omega
      have hdv : ((lo : Int) + (hi : Int)).tdiv 2 = (mid : Int) := by rw [Int.tdiv_eq_ediv_of_nonneg (by omega)]; omega
      have hdv2 : ((lo : Int) + (hi : Int)) / 2 = (mid : Int) := by omega
      replace hn := hid hn
      replace hmid := hid hmid
      clear p0 p1 p2 p3 Kr Hr hat hpi hy
      by_cases hc : C < 0
      · have hmp : mid < P := hpi'.1 hc
        clear hpi'
        go_wp2_with fail
        refine wp_region_quiet_below (by kernel_rfl) (by kernel_rfl) ?_
        repeat (first | go_big_quiet_step (first | (go_at_call 56; exact Calls.regrown_of (HKy.out _)) | (go_at_call 84; exact Calls.regrown_of (HCm.out _))) | quiet_step (first | (go_at_call 56; exact Calls.regrown_of (HKy.out _)) | (go_at_call 84; exact Calls.regrown_of (HCm.out _))))
        refine wpQuiet_nil ?_
        intro w8 hw8
        have b8 : Below wr.heap.size wr w8 := by
          obtain ⟨⟨dq, osq⟩, hw''⟩ := hw8
          rw [hw'']
          exact below_regrown _ dq osq
        have HB8 := hid (HB.out.trans (b8.mono HB.out.size))
        clear d0 d1 d2 d3 d6 d7 d8 HCm HKy hw8 b8
        go_wp2_with fail
        refine ⟨⟨mid + 1, hi, by simp, rfl, by omega, h2, h3, HB8⟩, ?_⟩
        simp only [intOf]; omega
      · have hmp : ¬ mid < P := fun h => hc (hpi'.2 h)
        clear hpi'
        go_wp2_with fail
        refine wp_region_quiet_below (by kernel_rfl) (by kernel_rfl) ?_
        repeat (first | go_big_quiet_step (first | (go_at_call 56; exact Calls.regrown_of (HKy.out _)) | (go_at_call 84; exact Calls.regrown_of (HCm.out _))) | quiet_step (first | (go_at_call 56; exact Calls.regrown_of (HKy.out _)) | (go_at_call 84; exact Calls.regrown_of (HCm.out _))))
        refine wpQuiet_nil ?_
        intro w8 hw8
        have b8 : Below wr.heap.size wr w8 := by
          obtain ⟨⟨dq, osq⟩, hw''⟩ := hw8
          rw [hw'']
          exact below_regrown _ dq osq
        have HB8 := hid (HB.out.trans (b8.mono HB.out.size))
        clear d0 d1 d2 d3 d6 d7 d8 HCm HKy hw8 b8
        go_wp2_with fail
        refine ⟨⟨lo, mid, rfl, rfl, h1, by omega, by omega, HB8⟩, ?_⟩
        simp only [intOf]; omega
    · have e1 : lo = P := by omega
      have i1 : ¬ (lo : Int) < (hi : Int) := by omega
      have BF : Hid (Below w.heap.size w wr) := B1.out.trans (HB.out.mono B1.out.size)
      go_wp2_with fail
      go_ret
      exact ⟨by rw [← hP.out, ← e1]; first | rfl | go_num, BF.out⟩
end Go.Proofs.Ytefihoohdaegeaa.Da
