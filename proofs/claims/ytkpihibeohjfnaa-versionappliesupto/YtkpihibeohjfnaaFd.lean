/- Find by its contract. -/
import Derived.Test.YtkpihibeohjfnaaVx
namespace Go.Proofs.Ytkpihibeohjfnaa.Fd
open Go.ChangeShapes Go.WideShapes Go.ChangeAt Go.RowKit
open Go.Proofs.Ytkpihibeohjfnaa.Gr
open Go.Proofs.Ytkpihibeohjfnaa.Ev
open Go.Proofs.Ytkpihibeohjfnaa.Oe
open Go.Proofs.Ytkpihibeohjfnaa.Lv
open Go.Proofs.Ytkpihibeohjfnaa.Vp
open Go.Proofs.Ytkpihibeohjfnaa.Vq
open Go.Proofs.Ytkpihibeohjfnaa.Vr
open Go.Proofs.Ytkpihibeohjfnaa.Vt
open Go.Proofs.Ytkpihibeohjfnaa.Vu
open Go.Proofs.Ytkpihibeohjfnaa.Vx
set_option linter.unusedVariables false
set_option linter.unusedSimpArgs false

/-- The first file with a Number, and its level. -/
def fndL (num : Int) : Nat → List (List Fi) → Option (Nat × Fi)
  | _, [] => none
  | k, fs :: r => match fs.find? (fun f => f.n == num) with
    | some f => some (k, f)
    | none => fndL num (k + 1) r
def no (num : Int) (fs : List Fi) : Prop := ∀ f ∈ fs, f.n ≠ num
theorem find_no {num : Int} {fs : List Fi} (h : no num fs) : fs.find? (fun f => f.n == num) = none := by
  rw [List.find?_eq_none]
  intro f hf
  simpa using h f hf
theorem fndL_no {num : Int} : ∀ {L : List (List Fi)} (k : Nat), (∀ fs ∈ L, no num fs) → fndL num k L = none
  | [], k, h => rfl
  | fs :: r, k, h => by
    unfold fndL
    rw [find_no (h fs (by simp))]
    exact fndL_no (k + 1) (fun fs' h' => h fs' (by simp [h']))
theorem fndL_at {num : Int} {f : Fi} (hf : f.n = num) : ∀ {L : List (List Fi)} (k i j : Nat), i < L.length → (∀ m, m < i → no num (L.getD m [])) → j < (L.getD i []).length → no num ((L.getD i []).take j) → (L.getD i []).getD j zf = f → fndL num k L = some (k + i, f)
  | [], k, i, j, hi, _, _, _, _ => by simp at hi
  | fs :: r, k, 0, j, hi, hno, hj, hn, he => by
    unfold fndL
    have : (fs :: r).getD 0 [] = fs := rfl
    rw [this] at hj hn he
    have e : fs = fs.take j ++ (f :: fs.drop (j + 1)) := by
      have h2 : fs[j]'hj = f := by rw [← he, List.getD_eq_getElem?_getD, List.getElem?_eq_getElem hj]; rfl
      rw [← h2, ← List.drop_eq_getElem_cons hj, List.take_append_drop]
    have h3 : fs.find? (fun f => f.n == num) = some f := by
      rw [e, List.find?_append, find_no hn]
      simp [hf]
    rw [h3]
    rfl
  | fs :: r, k, i + 1, j, hi, hno, hj, hn, he => by
    unfold fndL
    have h0 := hno 0 (by omega)
    rw [show (fs :: r).getD 0 [] = fs from rfl] at h0
    rw [find_no h0]
    have hg : ∀ m, (fs :: r).getD (m + 1) [] = r.getD m [] := fun m => rfl
    rw [hg] at hj hn he
    have := fndL_at hf (L := r) (k + 1) i j (by simpa using hi) (fun m hm => by have := hno (m + 1) (by omega); rwa [hg] at this) hj hn he
    show fndL num (k + 1) r = _
    rw [this]
    congr 2
    omega
def fnd (L : List (List Fi)) (num : Int) : Option (Nat × Fi) := if vld L = true then fndL num 0 L else none
/-- What Find answers. -/
def fa (o : Option (Nat × Fi)) : Value := match o with
  | some (k, f) => .tuple #[.int .i64 k, fv f, .bool true]
  | none => .tuple #[.int .i64 0, fv zf, .bool false]
abbrev Z6 : Array Value := #[.int .i64 0, .int .i64 0, .string ⟨#[]⟩, .string ⟨#[]⟩, .int .u64 0, .int .u64 0]
theorem set6 {W : World} {g : Nat} {t : TypeId} {a0 a1 a2 a3 a4 a5 : Value} (h : W.heap[g]? = some (.cells #[a0, a1, a2, a3, a4, a5] t)) (v0 v1 v2 v3 v4 v5 : Value) :
    ((((((W.setCell ⟨g, 0, none⟩ v0).setCell ⟨g, 1, none⟩ v1).setCell ⟨g, 2, none⟩ v2).setCell ⟨g, 3, none⟩ v3).setCell ⟨g, 4, none⟩ v4).setCell ⟨g, 5, none⟩ v5).heap[g]? = some (.cells #[v0, v1, v2, v3, v4, v5] t) := by
  have k0 := set_of h 0 v0
  have k1 := set_of k0 1 v1
  have k2 := set_of k1 2 v2
  have k3 := set_of k2 3 v3
  have k4 := set_of k3 4 v4
  have k5 := set_of k4 5 v5
  exact k5.trans rfl
theorem blk_drew {X : World} {g : Nat} {o : Obj} (h : X.heap[g]? = some o) : X.drew.heap[g]? = some o := h
theorem below_drew {n : Nat} {w X : World} (h : Below n w X) : Below n w X.drew := ⟨h.os, h.tape, h.output, h.size, h.block⟩
theorem set6_below {n gr : Nat} {w W : World} (h : Below n w W) (hg : n ≤ gr) (v0 v1 v2 v3 v4 v5 : Value) : Below n w ((((((W.setCell ⟨gr, 0, none⟩ v0).setCell ⟨gr, 1, none⟩ v1).setCell ⟨gr, 2, none⟩ v2).setCell ⟨gr, 3, none⟩ v3).setCell ⟨gr, 4, none⟩ v4).setCell ⟨gr, 5, none⟩ v5) :=
  (((((h.setCell (p := ⟨gr, 0, none⟩) hg v0).setCell (p := ⟨gr, 1, none⟩) hg v1).setCell (p := ⟨gr, 2, none⟩) hg v2).setCell (p := ⟨gr, 3, none⟩) hg v3).setCell (p := ⟨gr, 4, none⟩) hg v4).setCell (p := ⟨gr, 5, none⟩) hg v5
set_option maxHeartbeats 1000000 in
theorem find_bad (a : Option Addr) (len cap : Nat) (L : List (List Fi)) (num : Int) (w : World) (H : Lvs w a len cap L) (hw : wL L ≤ 1048576) (hv : vld L = false) :
    Calls Try.prog 17 #[.slice a len cap, .int .i64 num] w fun e w' => e = .returned (fa none) ∧ Below w.heap.size w w' := by
  obtain ⟨gr, hgr⟩ : ∃ g, g = w.heap.size := ⟨_, rfl⟩
  obtain ⟨W0, hW0⟩ : ∃ W, W = w.alloc (.cells Z6 43) := ⟨_, rfl⟩
  have k0 : W0.heap[gr]? = some (.cells Z6 43) := by rw [hW0, hgr]; exact new_at _ _
  have b0 : Below w.heap.size w W0 := by rw [hW0]; exact box_below _ _
  have HV := valid_any a len cap L W0 (H.later b0) hw
  rw [hv] at HV
  have hq : Hid (∀ w1, Below W0.heap.size W0 w1 → w1.heap[gr]? = some (.cells Z6 43)) := fun w1 b => (b.block _ (blk_lt k0)).trans k0
  replace HV := hid HV
  replace hW0 := hid hW0
  replace hgr := hid hgr
  replace b0 := hid b0
  clear H hv k0
  go_enter Try.func17, Try.ntmps17
  go_wp2_with fail
  refine wp_scope_straight ?_
  go_wp2_with fail
  rw [← hW0.out, ← hgr.out]
  refine HV.out.mono ?_
  rintro e w1 ⟨rfl, b1⟩
  have k1 := hq.out w1 b1
  have q0 := cell_of k1 0 _ rfl
  have z0 := fz_of k1 0
  have q1 := cell_of k1 1 _ rfl
  have z1 := fz_of k1 1
  have q2 := cell_of k1 2 _ rfl
  have z2 := fz_of k1 2
  have q3 := cell_of k1 3 _ rfl
  have z3 := fz_of k1 3
  have q4 := cell_of k1 4 _ rfl
  have z4 := fz_of k1 4
  have q5 := cell_of k1 5 _ rfl
  have z5 := fz_of k1 5
  have k2 := set6 k1 (.int .i64 0) (.int .i64 0) (.string ⟨#[]⟩) (.string ⟨#[]⟩) (.int .u64 0) (.int .u64 0)
  have b2 := set6_below (Below.up b0.out b1) (Nat.le_of_eq hgr.out.symm) (.int .i64 0) (.int .i64 0) (.string ⟨#[]⟩) (.string ⟨#[]⟩) (.int .u64 0) (.int .u64 0)
  obtain ⟨WB, hWB⟩ : ∃ WB, WB = ((((((w1.setCell ⟨gr, 0, none⟩ (.int .i64 0)).setCell ⟨gr, 1, none⟩ (.int .i64 0)).setCell ⟨gr, 2, none⟩ (.string ⟨#[]⟩)).setCell ⟨gr, 3, none⟩ (.string ⟨#[]⟩)).setCell ⟨gr, 4, none⟩ (.int .u64 0)).setCell ⟨gr, 5, none⟩ (.int .u64 0)) := ⟨_, rfl⟩
  rw [← hWB] at k2 b2
  replace hWB := hid hWB
  replace b2 := hid b2
  replace k2 := hid k2
  clear k1
  go_wp2_with fail
  rw [← hWB.out]
  have k3 := k2.out
  clear q0 z0 q1 z1 q2 z2 q3 z3 q4 z4 q5 z5
  have q0 := cell_of k3 0 _ rfl
  have q1 := cell_of k3 1 _ rfl
  have q2 := cell_of k3 2 _ rfl
  have q3 := cell_of k3 3 _ rfl
  have q4 := cell_of k3 4 _ rfl
  have q5 := cell_of k3 5 _ rfl
  simp only [Exit.noGoto]
  exact bodyPost_ret (v := fa none) (by simp [results, Try.results17, go_sem, fa, fv, zf, q0, q1, q2, q3, q4, q5]) rfl ⟨rfl, b2.out⟩
set_option maxRecDepth 100000 in
set_option maxHeartbeats 2000000 in
theorem find_good (a : Option Addr) (len cap : Nat) (L : List (List Fi)) (num : Int) (w : World) (H : Lvs w a len cap L) (hw : wL L ≤ 1048576) (hv : vld L = true) :
    Calls Try.prog 17 #[.slice a len cap, .int .i64 num] w fun e w' => e = .returned (fa (fndL num 0 L)) ∧ Below w.heap.size w w' := by
  have hll := wL_len L
  have hlen := H.len_eq
  have hcap := H.cap_le
  have hn8 : len ≤ 1048576 := by omega
  obtain ⟨gr, hgr⟩ : ∃ g, g = w.heap.size := ⟨_, rfl⟩
  obtain ⟨W0, hW0⟩ : ∃ W, W = w.alloc (.cells Z6 43) := ⟨_, rfl⟩
  have k0 : W0.heap[gr]? = some (.cells Z6 43) := by rw [hW0, hgr]; exact new_at _ _
  have b0 : Below w.heap.size w W0 := by rw [hW0]; exact box_below _ _
  have HV := valid_any a len cap L W0 (H.later b0) hw
  rw [hv] at HV
  have hq : Hid (∀ w1, Below W0.heap.size W0 w1 → w1.heap[gr]? = some (.cells Z6 43)) := fun w1 b => (b.block _ (blk_lt k0)).trans k0
  have HL : Hid (∀ W', Below w.heap.size w W' → Lvs W' a len cap L) := fun W' b => H.later b
  replace HV := hid HV
  replace hW0 := hid hW0
  replace hgr := hid hgr
  replace b0 := hid b0
  replace hlen := hid hlen
  replace hw := hid hw
  clear H hv k0 hll
  go_enter Try.func17, Try.ntmps17
  go_wp2_with fail
  refine wp_scope_straight ?_
  go_wp2_with fail
  rw [← hW0.out, ← hgr.out]
  refine HV.out.mono ?_
  rintro e w1 ⟨rfl, b1⟩
  have k1 := hid (hq.out w1 b1)
  have bw := hid (Below.up b0.out b1)
  clear b1 HV hq
  go_wp2_with fail
  refine wp_label ?_
  go_wp2_with fail
  rename_i Kq hKq
  have keyN : ∀ W', W'.heap[gr]? = some (.cells Z6 43) → Below w.heap.size w W' → True := fun _ _ _ => trivial
  go_loopw [4, 6, 17] (fun l0 o0 ii wr => ∃ i : Nat, l0 = .int .i64 0 ∧ o0 = .bool false ∧ ii = .int .i64 i ∧ i ≤ len ∧ Hid (∀ m, m < i → no num (L.getD m [])) ∧ Hid (wr.heap[gr]? = some (.cells Z6 43)) ∧ Hid (Below w.heap.size w wr)) (fun _ _ ii _ => len - (intOf ii).toNat)
  case atStart => exact ⟨0, rfl, rfl, rfl, by omega, fun m hm => by omega, k1, bw⟩
  case round =>
    clear k1 bw keyN
    obtain ⟨i, rfl, rfl, rfl, hi, hall, k1, bw⟩ := hrel
    by_cases hlt : i < len
    · obtain ⟨lb, lof, la, ln, lc, rfl, cl0, FS, hln⟩ := (HL.out w (Below.refl _ _)).at i hlt
      have cl := cell_later cl0 bw.out
      have ik0 : (i : Int) < (len : Int) := by omega
      have ok0 : (0 : Int) ≤ (i : Int) := by omega
      have hsum := wL_at (L := L) (i := i) (by rw [hlen.out]; exact hlt)
      have hln8 : ln ≤ 1048576 := by have := hw.out; omega
      have hfa : Hid (∀ j f, j < (L.getD i []).length → no num ((L.getD i []).take j) → (L.getD i []).getD j zf = f → f.n = num → fndL num 0 L = some (i, f)) := by
        intro j f hj hn he hf
        have := fndL_at hf (L := L) 0 i j (by rw [hlen.out]; exact hlt) hall.out hj hn he
        rwa [Nat.zero_add] at this
      obtain ⟨fs, hfs⟩ : ∃ fs, fs = L.getD i [] := ⟨_, rfl⟩
      rw [← hfs] at FS hln hfa
      have hlc := FS.c
      have HF : Hid (∀ W', Below w.heap.size w W' → eFi.Sl W' la ln lc fs) := fun W' b => FS.later b
      replace hfs := hid hfs
      replace hln := hid hln
      clear FS hsum cl0
      go_wp2_with fail
      go_loopw [4, 6, 24] (fun l0 o0 ii wr => ∃ j : Nat, l0 = .int .i64 0 ∧ o0 = .bool false ∧ ii = .int .i64 j ∧ j ≤ ln ∧ Hid (no num (fs.take j)) ∧ Hid (wr.heap[gr]? = some (.cells Z6 43)) ∧ Hid (Below w.heap.size w wr)) (fun _ _ ii _ => ln - (intOf ii).toNat)
      case atStart => exact ⟨0, rfl, rfl, rfl, by omega, (fun f hf => by simp at hf), k1, bw⟩
      case round =>
        clear k1 bw
        obtain ⟨j, rfl, rfl, rfl, hj, hno, k1, bw⟩ := hrel
        by_cases hjl : j < ln
        · obtain ⟨fb, fo, rfl, hat⟩ := get1 (HF.out wr bw.out) j hjl
          have hA := fi_at (hat j hjl)
          rw [show eFi.z = zf from rfl] at hA
          have hjf : j < fs.length := by rw [← hln.out]; exact hjl
          have htk := hid (El.take_snoc (E := eFi) hjf)
          rw [show eFi.z = zf from rfl] at htk
          have hfx : Hid (∀ f, fs.getD j zf = f → f.n = num → fndL num 0 L = some (i, f)) := fun f he hf => hfa.out j f hjf hno.out he hf
          clear hat
          generalize fs.getD j zf = f at *
          obtain ⟨n, z, s, t, lo, hi'⟩ := f
          obtain ⟨e1, e2, e3, e4, e5, e6⟩ := hA
          simp only [show eFi.k = 6 from rfl] at e1 e2 e3 e4 e5 e6
          have jk0 : (j : Int) < (ln : Int) := by omega
          have jo0 : (0 : Int) ≤ (j : Int) := by omega
          obtain ⟨W1, hW1⟩ : ∃ W, W = wr.alloc (.cells #[.int .i64 n, .int .i64 z, .string s, .string t, .int .u64 lo, .int .u64 hi'] 43) := ⟨_, rfl⟩
          obtain ⟨gx, hgx⟩ : ∃ g, g = wr.heap.size := ⟨_, rfl⟩
          have kx : W1.heap[gx]? = some (.cells #[.int .i64 n, .int .i64 z, .string s, .string t, .int .u64 lo, .int .u64 hi'] 43) := by rw [hW1, hgx]; exact new_at _ _
          have bx : Below wr.heap.size wr W1 := by rw [hW1]; exact box_below _ _
          have kr : W1.heap[gr]? = some (.cells Z6 43) := (bx.block _ (blk_lt k1.out)).trans k1.out
          have bw1 := hid (Below.up bw.out bx)
          by_cases hn : n = num
          · have hnb : (n == num) = true := by rw [hn]; exact beq_self_eq_true _
            have hR := hid (hfx.out _ rfl hn)
            have c4 := kr
            have y0 := cell_of kx 0 _ rfl
            have y1 := cell_of kx 1 _ rfl
            have y2 := cell_of kx 2 _ rfl
            have y3 := cell_of kx 3 _ rfl
            have y4 := cell_of kx 4 _ rfl
            have y5 := cell_of kx 5 _ rfl
            have q0 := cell_of c4 0 _ rfl
            have z0 := fz_of c4 0
            have q1 := cell_of c4 1 _ rfl
            have z1 := fz_of c4 1
            have q2 := cell_of c4 2 _ rfl
            have z2 := fz_of c4 2
            have q3 := cell_of c4 3 _ rfl
            have z3 := fz_of c4 3
            have q4 := cell_of c4 4 _ rfl
            have z4 := fz_of c4 4
            have q5 := cell_of c4 5 _ rfl
            have z5 := fz_of c4 5
            have hne : gx ≠ gr := by have := blk_lt k1.out; omega
            have m2 := set6 kr (.int .i64 n) (.int .i64 z) (.string s) (.string t) (.int .u64 lo) (.int .u64 hi')
            have mb := set6_below bw1.out (Nat.le_of_eq hgr.out.symm) (.int .i64 n) (.int .i64 z) (.string s) (.string t) (.int .u64 lo) (.int .u64 hi')
            obtain ⟨WA, hWA⟩ : ∃ WA, WA = ((((((W1.setCell ⟨gr, 0, none⟩ (.int .i64 n)).setCell ⟨gr, 1, none⟩ (.int .i64 z)).setCell ⟨gr, 2, none⟩ (.string s)).setCell ⟨gr, 3, none⟩ (.string t)).setCell ⟨gr, 4, none⟩ (.int .u64 lo)).setCell ⟨gr, 5, none⟩ (.int .u64 hi')).drew := ⟨_, rfl⟩
            have m3 : WA.heap[gr]? = some (.cells #[.int .i64 n, .int .i64 z, .string s, .string t, .int .u64 lo, .int .u64 hi'] 43) := by rw [hWA]; exact blk_drew m2
            have mb3 : Below w.heap.size w WA := by rw [hWA]; exact below_drew mb
            replace m3 := hid m3
            replace mb3 := hid mb3
            replace hWA := hid hWA
            replace hW1 := hid hW1
            replace hgx := hid hgx
            clear hn kr kx bx c4 m2 mb
            go_wp2_with fail
            rw [← hW1.out, ← hgx.out]
            go_region
            rw [← hWA.out]
            clear q0 z0 y0 q1 z1 y1 q2 z2 y2 q3 z3 y3 q4 z4 y4 q5 z5 y5
            have k4 := m3.out
            have q0 := cell_of k4 0 _ rfl
            have z0 := fz_of k4 0
            have q1 := cell_of k4 1 _ rfl
            have z1 := fz_of k4 1
            have q2 := cell_of k4 2 _ rfl
            have z2 := fz_of k4 2
            have q3 := cell_of k4 3 _ rfl
            have z3 := fz_of k4 3
            have q4 := cell_of k4 4 _ rfl
            have z4 := fz_of k4 4
            have q5 := cell_of k4 5 _ rfl
            have z5 := fz_of k4 5
            have d2 := set6 k4 (.int .i64 n) (.int .i64 z) (.string s) (.string t) (.int .u64 lo) (.int .u64 hi')
            have b2 := set6_below mb3.out (Nat.le_of_eq hgr.out.symm) (.int .i64 n) (.int .i64 z) (.string s) (.string t) (.int .u64 lo) (.int .u64 hi')
            obtain ⟨WB, hWB⟩ : ∃ WB, WB = ((((((WA.setCell ⟨gr, 0, none⟩ (.int .i64 n)).setCell ⟨gr, 1, none⟩ (.int .i64 z)).setCell ⟨gr, 2, none⟩ (.string s)).setCell ⟨gr, 3, none⟩ (.string t)).setCell ⟨gr, 4, none⟩ (.int .u64 lo)).setCell ⟨gr, 5, none⟩ (.int .u64 hi')).drew := ⟨_, rfl⟩
            have d3 : WB.heap[gr]? = some (.cells #[.int .i64 n, .int .i64 z, .string s, .string t, .int .u64 lo, .int .u64 hi'] 43) := by rw [hWB]; exact blk_drew d2
            have b3 : Below w.heap.size w WB := by rw [hWB]; exact below_drew b2
            have x0 := cell_of d3 0 _ rfl
            have x1 := cell_of d3 1 _ rfl
            have x2 := cell_of d3 2 _ rfl
            have x3 := cell_of d3 3 _ rfl
            have x4 := cell_of d3 4 _ rfl
            have x5 := cell_of d3 5 _ rfl
            replace hWB := hid hWB
            replace b3 := hid b3
            clear k4 d2 b2 d3
            go_wp2_with fail
            go_region
            rw [← hWB.out]
            clear q0 z0 q1 z1 q2 z2 q3 z3 q4 z4 q5 z5
            go_wp2_with fail
            simp only [Exit.noGoto]
            exact bodyPost_ret (v := .tuple #[.int .i64 i, .agg #[.int .i64 n, .int .i64 z, .string s, .string t, .int .u64 lo, .int .u64 hi'], .bool true]) (by simp [results, Try.results17, go_sem, fa, fv, zf, x0, x1, x2, x3, x4, x5]) rfl ⟨by rw [hR.out] <;> rfl, b3.out⟩
          · have hnb : (n == num) = false := by rw [beq_eq_false_iff_ne]; exact hn
            have hno' : Hid (no num (fs.take (j + 1))) := by
              intro f hf
              rw [htk.out] at hf
              rcases List.mem_append.1 hf with h | h
              · exact hno.out f h
              · rw [List.mem_singleton] at h; subst h; exact hn
            have kr' := hid kr
            replace hW1 := hid hW1
            replace hgx := hid hgx
            clear hn kr kx bx k1
            go_wp2_with fail
            rw [← hW1.out]
            go_roundw
            case rel => exact ⟨j + 1, rfl, rfl, by go_num, by omega, hno', kr', bw1⟩
            case measure => simp [intOf]; omega
        · have hje : j = ln := by omega
          subst hje
          have hall' : Hid (∀ m, m < i + 1 → no num (L.getD m [])) := by
            intro m hm
            by_cases e : m < i
            · exact hall.out m e
            · rw [show m = i by omega, ← hfs.out]
              have := hno.out
              rwa [hln.out, List.take_length] at this
          go_wp2_with fail
          go_roundw
          case rel => exact ⟨i + 1, rfl, rfl, by go_num, by omega, hall', k1, bw⟩
          case measure => simp [intOf]; omega
    · have hie : i = len := by omega
      subst hie
      have hR : Hid (fndL num 0 L = none) := by
        refine fndL_no 0 (fun fs hfs => ?_)
        obtain ⟨m, hm, e⟩ := List.getElem_of_mem hfs
        have := hall.out m (by rw [← hlen.out]; exact hm)
        rwa [List.getD_eq_getElem?_getD, List.getElem?_eq_getElem hm, Option.getD_some, e] at this
      have k4 := k1.out
      have q0 := cell_of k4 0 _ rfl
      have z0 := fz_of k4 0
      have q1 := cell_of k4 1 _ rfl
      have z1 := fz_of k4 1
      have q2 := cell_of k4 2 _ rfl
      have z2 := fz_of k4 2
      have q3 := cell_of k4 3 _ rfl
      have z3 := fz_of k4 3
      have q4 := cell_of k4 4 _ rfl
      have z4 := fz_of k4 4
      have q5 := cell_of k4 5 _ rfl
      have z5 := fz_of k4 5
      have d2 := set6 k4 (.int .i64 0) (.int .i64 0) (.string ⟨#[]⟩) (.string ⟨#[]⟩) (.int .u64 0) (.int .u64 0)
      have b2 := set6_below bw.out (Nat.le_of_eq hgr.out.symm) (.int .i64 0) (.int .i64 0) (.string ⟨#[]⟩) (.string ⟨#[]⟩) (.int .u64 0) (.int .u64 0)
      obtain ⟨WB, hWB⟩ : ∃ WB, WB = ((((((wr.setCell ⟨gr, 0, none⟩ (.int .i64 0)).setCell ⟨gr, 1, none⟩ (.int .i64 0)).setCell ⟨gr, 2, none⟩ (.string ⟨#[]⟩)).setCell ⟨gr, 3, none⟩ (.string ⟨#[]⟩)).setCell ⟨gr, 4, none⟩ (.int .u64 0)).setCell ⟨gr, 5, none⟩ (.int .u64 0)).drew := ⟨_, rfl⟩
      have d3 : WB.heap[gr]? = some (.cells #[.int .i64 0, .int .i64 0, .string ⟨#[]⟩, .string ⟨#[]⟩, .int .u64 0, .int .u64 0] 43) := by rw [hWB]; exact blk_drew d2
      have b3 : Below w.heap.size w WB := by rw [hWB]; exact below_drew b2
      have x0 := cell_of d3 0 _ rfl
      have x1 := cell_of d3 1 _ rfl
      have x2 := cell_of d3 2 _ rfl
      have x3 := cell_of d3 3 _ rfl
      have x4 := cell_of d3 4 _ rfl
      have x5 := cell_of d3 5 _ rfl
      replace hWB := hid hWB
      replace b3 := hid b3
      clear k4 d2 b2 d3
      go_wp2_with fail
      go_region
      rw [← hWB.out]
      clear q0 z0 q1 z1 q2 z2 q3 z3 q4 z4 q5 z5
      go_wp2_with fail
      simp only [Exit.noGoto]
      exact bodyPost_ret (v := fa none) (by simp [results, Try.results17, go_sem, fa, fv, zf, x0, x1, x2, x3, x4, x5]) rfl ⟨by rw [hR.out] <;> rfl, b3.out⟩
end Go.Proofs.Ytkpihibeohjfnaa.Fd
