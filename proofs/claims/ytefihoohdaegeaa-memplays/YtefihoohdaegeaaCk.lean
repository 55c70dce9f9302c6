/- What a memtable may take: mayBe, sizeOf, check. -/
import Derived.Test.YtefihoohdaegeaaTb
namespace Go.Proofs.Ytefihoohdaegeaa.Ck
open Go.ChangeShapes Go.WideShapes Go.ChangeAt Go.RowKit Go.Shelf
open Go.Proofs.Ytefihoohdaegeaa.Lx
open Go.Proofs.Ytefihoohdaegeaa.Tm (T zt vd ret_bool ret_int)
open Go.Proofs.Ytefihoohdaegeaa.Tb
open Go.Proofs.Ytefihoohdaegeaa.Kd (sizeB size_true size_false)
open Go.Proofs.Ytefihoohdaegeaa.Mm (box_below)
set_option linter.unusedVariables false
set_option linter.unusedSimpArgs false
attribute [local go_sem] leq_s gtr_s geq_s

/-- The operation may be. -/
def may (c : Int) (k v : ByteArray) : Bool := sizeB (k.size : Int) && (if c = 0 then decide (v.size = 0) else if c = 1 then decide ((v.size : Int) ≤ 65536) else if c = 2 then sizeB (v.size : Int) && lt k v else false)
theorem isKeySize_any (v : Int) (w : World) : Calls Try.prog 101 #[.int .i64 v] w fun e w' => e = .returned (.bool (sizeB v)) ∧ w' = w := by
  by_cases h : 1 ≤ v
  · have E : Hid (decide (v ≤ 1024) = sizeB v) := by show _ = _; unfold sizeB; simp [h]
    go_enter Try.func101, Try.ntmps101
    go_wp2
    go_ret
    exact ⟨ret_bool E.out, rfl⟩
  · have E : Hid (false = sizeB v) := by show _ = _; unfold sizeB; simp [h]
    go_enter Try.func101, Try.ntmps101
    go_wp2
    go_ret
    exact ⟨ret_bool E.out, rfl⟩
theorem size_zero (v : ByteArray) : v.toList.isEmpty = decide (v.size = 0) := by
  rw [ByteArray.toList_eq]
  obtain ⟨⟨l⟩⟩ := v
  cases l <;> simp [ByteArray.size]
set_option maxHeartbeats 2000000 in
theorem maybe_any (c : Int) (k v : ByteArray) (w : World) (hk : k.size ≤ maxLen) (hv : v.size ≤ maxLen) :
    Calls Try.prog 80 #[.agg #[.int .i64 c, .string k, .string v]] w fun e w' => e = .returned (.bool (may c k v)) ∧ Below w.heap.size w w' := by
  unfold maxLen at hk hv
  obtain ⟨R, hR⟩ : ∃ R, R = may c k v := ⟨_, rfl⟩
  rw [← hR]
  have B := hid (box_below w (.cells #[.int .i64 c, .string k, .string v] 32))
  have e0 := hid (size_zero v)
  cases h1 : sizeB (k.size : Int)
  · have E : Hid (false = R) := by show _ = _; rw [hR]; unfold may; simp [h1]
    clear hR e0
    go_enter Try.func80, Try.ntmps80
    go_wp2_with fail
    refine (isKeySize_any _ _).mono ?_
    rw [h1]
    rintro e w' ⟨rfl, rfl⟩
    go_wp2_with fail
    go_ret
    exact ⟨ret_bool E.out, B.out⟩
  · by_cases h2 : c = 0
    · have E : Hid (decide (v.size = 0) = R) := by show _ = _; rw [hR]; unfold may; simp [h1, h2]
      subst h2
      clear hR
      go_enter Try.func80, Try.ntmps80
      go_wp2_with fail
      refine (isKeySize_any _ _).mono ?_
      rw [h1]
      rintro e w' ⟨rfl, rfl⟩
      go_wp2_with fail
      go_ret
      refine ⟨?_, B.out⟩
      rw [← E.out, ← e0.out]
      rfl
    · have e2 : (c == 0) = false := beq_eq_false_iff_ne.2 h2
      by_cases h3 : c = 1
      · have E : Hid (decide ((v.size : Int) ≤ 65536) = R) := by show _ = _; rw [hR]; unfold may; simp [h1, h3]
        subst h3
        clear hR e0 h2 e2
        go_enter Try.func80, Try.ntmps80
        go_wp2_with fail
        refine (isKeySize_any _ _).mono ?_
        rw [h1]
        rintro e w' ⟨rfl, rfl⟩
        go_wp2_with fail
        go_ret
        exact ⟨ret_bool E.out, B.out⟩
      · have e3 : (c == 1) = false := beq_eq_false_iff_ne.2 h3
        by_cases h4 : c = 2
        · cases h5 : sizeB (v.size : Int)
          · have E : Hid (false = R) := by show _ = _; rw [hR]; unfold may; simp [h1, h4, h5]
            subst h4
            clear hR e0 h2 e2 h3 e3
            go_enter Try.func80, Try.ntmps80
            go_wp2_with fail
            refine (isKeySize_any _ _).mono ?_
            rw [h1]
            rintro e w' ⟨rfl, rfl⟩
            go_wp2_with fail
            refine (isKeySize_any _ _).mono ?_
            rw [h5]
            rintro e w' ⟨rfl, rfl⟩
            go_wp2_with fail
            go_ret
            exact ⟨ret_bool E.out, B.out⟩
          · have E : Hid (lt k v = R) := by show _ = _; rw [hR]; unfold may; simp [h1, h4, h5]
            subst h4
            clear hR e0 h2 e2 h3 e3
            go_enter Try.func80, Try.ntmps80
            go_wp2_with fail
            refine (isKeySize_any _ _).mono ?_
            rw [h1]
            rintro e w' ⟨rfl, rfl⟩
            go_wp2_with fail
            refine (isKeySize_any _ _).mono ?_
            rw [h5]
            rintro e w' ⟨rfl, rfl⟩
            go_wp2_with fail
            go_ret
            exact ⟨ret_bool E.out, B.out⟩
        · have e4 : (c == 2) = false := beq_eq_false_iff_ne.2 h4
          have E : Hid (false = R) := by show _ = _; rw [hR]; unfold may; simp [h2, h3, h4]
          clear hR e0 h2 h3 h4
          go_enter Try.func80, Try.ntmps80
          go_wp2_with fail
          refine (isKeySize_any _ _).mono ?_
          rw [h1]
          rintro e w' ⟨rfl, rfl⟩
          go_wp2_with fail
          go_ret
          exact ⟨ret_bool E.out, B.out⟩
theorem sizeof_any (c : Int) (k v : ByteArray) (w : World) (hk : k.size ≤ 1024) (hv : v.size ≤ 65536) :
    Calls Try.prog 83 #[.agg #[.int .i64 c, .string k, .string v]] w fun e w' => e = .returned (.int .i64 (16 + (k.size : Int) + v.size)) ∧ Below w.heap.size w w' := by
  have B := hid (box_below w (.cells #[.int .i64 c, .string k, .string v] 32))
  go_enter Try.func83, Try.ntmps83
  go_wp2
  go_ret
  exact ⟨by go_num, B.out⟩
/-- What check answers. -/
def chk (S : St) (q c : Int) (k v : ByteArray) (h : Int) : Int := if S.dn = true then 230 else if q < 1 ∨ 72057594037927935 < q then 2 else if may c k v = false then 40 else if h < 1 ∨ 12 < h then 2 else 0
set_option maxHeartbeats 2000000 in
theorem check_any (g gl gs bm : Nat) (S : St) (q c : Int) (k v : ByteArray) (h : Int) (w : World) (H : Tc w g (S.cells gl gs bm)) (hk : k.size ≤ maxLen) (hv : v.size ≤ maxLen) :
    Calls Try.prog 50 #[.pointer (some ⟨g, 0, none⟩), .int .u64 q, .agg #[.int .i64 c, .string k, .string v], .int .i64 h] w fun e w' => e = .returned (.int .i64 (chk S q c k v h)) ∧ Below w.heap.size w w' := by
  obtain ⟨W0, hW0⟩ : ∃ W, W = w.alloc (.cells #[.int .i64 c, .string k, .string v] 32) := ⟨_, rfl⟩
  have B : Below w.heap.size w W0 := by rw [hW0]; exact box_below _ _
  have H0 : Tc W0 g (S.cells gl gs bm) := (B.block g H.lt).trans H
  have HN := hid (isnone_any g gl gs bm S W0 H0)
  have c1 : W0.cell? ⟨g, 1, none⟩ = some (.bool S.dn) := H0.cell 1
  have HM := hid (maybe_any c k v W0 hk hv)
  obtain ⟨gt, hgt⟩ : ∃ n, n = w.heap.size := ⟨_, rfl⟩
  have kA : W0.heap[gt]? = some (.cells #[.int .i64 c, .string k, .string v] 32) := by rw [hW0, hgt]; exact Tr.new_at _ _
  have t0 := Tr.cell_of kA 0 (.int .i64 c) rfl
  have t1 := Tr.cell_of kA 1 (.string k) rfl
  have t2 := Tr.cell_of kA 2 (.string v) rfl
  obtain ⟨R, hR⟩ : ∃ R, R = chk S q c k v h := ⟨_, rfl⟩
  rw [← hR]
  unfold chk at hR
  generalize S.dn = dn at *
  generalize hmy : may c k v = my at *
  have hR : Hid (R = if dn = true then 230 else if q < 1 ∨ 72057594037927935 < q then 2 else if my = false then 40 else if h < 1 ∨ 12 < h then 2 else 0) := hR
  replace hW0 := hid hW0
  replace hgt := hid hgt
  replace B := hid B
  clear hmy H H0 kA
  cases dn with
  | true =>
    have E : Hid ((230 : Int) = R) := by show _ = _; rw [hR.out]; simp
    go_enter Try.func50, Try.ntmps50
    go_wp2_with fail
    rw [← hW0.out, ← hgt.out]
    refine HN.out.mono ?_
    rintro e w1 ⟨rfl, rfl⟩
    go_wp2_with fail
    go_ret
    exact ⟨ret_int E.out, B.out⟩
  | false =>
    by_cases h1 : q < 1
    · have E : Hid ((2 : Int) = R) := by show _ = _; rw [hR.out]; simp [h1]
      go_enter Try.func50, Try.ntmps50
      go_wp2_with fail
      rw [← hW0.out, ← hgt.out]
      refine HN.out.mono ?_
      rintro e w1 ⟨rfl, rfl⟩
      go_wp2_with fail
      go_ret
      exact ⟨ret_int E.out, B.out⟩
    · by_cases h2 : 72057594037927935 < q
      · have E : Hid ((2 : Int) = R) := by show _ = _; rw [hR.out]; simp [h2]
        go_enter Try.func50, Try.ntmps50
        go_wp2_with fail
        rw [← hW0.out, ← hgt.out]
        refine HN.out.mono ?_
        rintro e w1 ⟨rfl, rfl⟩
        go_wp2_with fail
        go_ret
        exact ⟨ret_int E.out, B.out⟩
      · cases my with
        | false =>
          have E : Hid ((40 : Int) = R) := by show _ = _; rw [hR.out]; simp [h1, h2]
          go_enter Try.func50, Try.ntmps50
          go_wp2_with fail
          rw [← hW0.out, ← hgt.out]
          refine HN.out.mono ?_
          rintro e w1 ⟨rfl, rfl⟩
          go_wp2_with fail
          refine HM.out.mono ?_
          rintro e w2 ⟨rfl, b2⟩
          have B2 := hid (B.out.trans (b2.mono B.out.size))
          go_wp2_with fail
          go_ret
          exact ⟨ret_int E.out, B2.out⟩
        | true =>
          by_cases h3 : h < 1
          · have E : Hid ((2 : Int) = R) := by show _ = _; rw [hR.out]; simp [h1, h2, h3]
            go_enter Try.func50, Try.ntmps50
            go_wp2_with fail
            rw [← hW0.out, ← hgt.out]
            refine HN.out.mono ?_
            rintro e w1 ⟨rfl, rfl⟩
            go_wp2_with fail
            refine HM.out.mono ?_
            rintro e w2 ⟨rfl, b2⟩
            have B2 := hid (B.out.trans (b2.mono B.out.size))
            go_wp2_with fail
            go_ret
            exact ⟨ret_int E.out, B2.out⟩
          · by_cases h4 : 12 < h
            · have E : Hid ((2 : Int) = R) := by show _ = _; rw [hR.out]; simp [h1, h2, h4]
              go_enter Try.func50, Try.ntmps50
              go_wp2_with fail
              rw [← hW0.out, ← hgt.out]
              refine HN.out.mono ?_
              rintro e w1 ⟨rfl, rfl⟩
              go_wp2_with fail
              refine HM.out.mono ?_
              rintro e w2 ⟨rfl, b2⟩
              have B2 := hid (B.out.trans (b2.mono B.out.size))
              go_wp2_with fail
              go_ret
              exact ⟨ret_int E.out, B2.out⟩
            · have E : Hid ((0 : Int) = R) := by show _ = _; rw [hR.out]; simp [h1, h2, h3, h4]
              go_enter Try.func50, Try.ntmps50
              go_wp2_with fail
              rw [← hW0.out, ← hgt.out]
              refine HN.out.mono ?_
              rintro e w1 ⟨rfl, rfl⟩
              go_wp2_with fail
              refine HM.out.mono ?_
              rintro e w2 ⟨rfl, b2⟩
              have B2 := hid (B.out.trans (b2.mono B.out.size))
              go_wp2_with fail
              go_ret
              exact ⟨ret_int E.out, B2.out⟩
end Go.Proofs.Ytefihoohdaegeaa.Ck
