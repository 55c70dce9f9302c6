/- readInto by its contract, three instances. -/
import Derived.Test.YtnpeocoipodmfaaNu
namespace Go.Proofs.Ytnpeocoipodmfaa.Ri
open Go.ChangeShapes Go.WideShapes Go.ChangeAt Go.RowKit
open Go.Proofs.Ytnpeocoipodmfaa.Gr
open Go.Proofs.Ytnpeocoipodmfaa.Nu (nread)
open Go.Proofs.Ytnpeocoipodmfaa.By (Row Bytes tx)
set_option linter.unusedVariables false
set_option linter.unusedSimpArgs false

/-- What is read one behind the other; it ends with the first that fails. -/
def rdk {α : Type} (R : Int → α × Int × Int) : Nat → Int → List α × Int × Int
  | 0, p => ([], p, 0)
  | k + 1, p => if (rdk R k p).2.2 ≠ 0 then rdk R k p else if (R (rdk R k p).2.1).2.2 ≠ 0 then ((rdk R k p).1 ++ [(R (rdk R k p).2.1).1], 0, (R (rdk R k p).2.1).2.2) else ((rdk R k p).1 ++ [(R (rdk R k p).2.1).1], (R (rdk R k p).2.1).2.1, 0)
theorem rdk_succ {α : Type} (R : Int → α × Int × Int) (k : Nat) (p : Int) : rdk R (k + 1) p = if (rdk R k p).2.2 ≠ 0 then rdk R k p else if (R (rdk R k p).2.1).2.2 ≠ 0 then ((rdk R k p).1 ++ [(R (rdk R k p).2.1).1], 0, (R (rdk R k p).2.1).2.2) else ((rdk R k p).1 ++ [(R (rdk R k p).2.1).1], (R (rdk R k p).2.1).2.1, 0) := rfl
theorem rdk_stop {α : Type} (R : Int → α × Int × Int) (k : Nat) (p : Int) (h : (rdk R k p).2.2 ≠ 0) : ∀ m, rdk R (k + m) p = rdk R k p
  | 0 => rfl
  | m + 1 => by
    show rdk R ((k + m) + 1) p = _
    rw [rdk_succ, rdk_stop R k p h m, if_pos h]
theorem rdk_len {α : Type} (R : Int → α × Int × Int) (p : Int) : ∀ k, (rdk R k p).2.2 = 0 → (rdk R k p).1.length = k
  | 0, _ => rfl
  | k + 1, h => by
    unfold rdk at h ⊢
    split at h
    · rename_i h1; exact absurd h h1
    · rename_i h1
      rw [if_neg h1]
      have hk := rdk_len R p k (by simpa using h1)
      split
      · simp [hk]
      · simp [hk]
/-- Cells that are set one behind the other. -/
def puts (cs : Array Value) (o : Nat) : List Value → Array Value
  | [] => cs
  | v :: r => puts (cs.setIfInBounds o v) (o + 1) r
theorem puts_snoc (x : Value) : ∀ (xs : List Value) (cs : Array Value) (o : Nat), puts cs o (xs ++ [x]) = (puts cs o xs).setIfInBounds (o + xs.length) x
  | [], cs, o => by simp [puts]
  | v :: r, cs, o => by
    show puts (cs.setIfInBounds o v) (o + 1) (r ++ [x]) = (puts (cs.setIfInBounds o v) (o + 1) r).setIfInBounds _ x
    rw [puts_snoc x r, List.length_cons, show o + 1 + r.length = o + (r.length + 1) by omega]
theorem puts_size : ∀ (xs : List Value) (cs : Array Value) (o : Nat), (puts cs o xs).size = cs.size
  | [], _, _ => rfl
  | v :: r, cs, o => by
    show (puts (cs.setIfInBounds o v) (o + 1) r).size = _
    rw [puts_size r, Array.size_setIfInBounds]
/-- Pointers to cells one behind the other. -/
def ptrs (g o n : Nat) : Array Value := ((List.range n).map fun i => Value.pointer (some ⟨g, o + i, none⟩)).toArray
theorem ptrs_at {W : World} {gs g o n : Nat} {t : TypeId} (K : W.heap[gs]? = some (.cells (ptrs g o n) t)) {k : Nat} (hk : k < n) : W.cell? ⟨gs, k, none⟩ = some (.pointer (some ⟨g, o + k, none⟩)) := by
  refine cell_of K k _ ?_
  unfold ptrs
  rw [List.getElem?_toArray, List.getElem?_map, List.getElem?_range hk]
  rfl
set_option maxHeartbeats 1000000 in
set_option maxRecDepth 20000 in
theorem into_int (a : Option Addr) (len cap : Nat) (zs : List Int) (p : Int) (w : World) (g o n gs : Nat) (cs : Array Value) (t : TypeId) (H : ∀ W, Fp (fun j => j = g) w W → Bytes W a len cap zs) (hcap : len ≤ 281474976710656) (K : w.heap[g]? = some (.cells cs t)) (hcs : o + n ≤ cs.size) (KP : w.heap[gs]? = some (.cells (ptrs g o n) 72)) (hne : gs ≠ g) (hn : n ≤ 1024) :
    Calls Try.prog 33 #[.slice a len cap, .int .i64 p, .func (.func 34) #[] #[], .slice (some ⟨gs, 0, none⟩) n n] w fun e w' => e = .returned (.tuple #[.int .i64 (rdk (nread zs) n p).2.1, .int .i64 (rdk (nread zs) n p).2.2]) ∧ w'.heap[g]? = some (.cells (puts cs o ((rdk (nread zs) n p).1.map (fun v => Value.int .i64 v))) t) ∧ Fp (fun j => j = g) w w' := by
  have HK : Hid (∀ W, Fp (fun j => j = g) w W → W.heap[gs]? = some (.cells (ptrs g o n) 72)) := fun W f => (f.block _ (blk_lt KP) hne).trans KP
  have HC : Hid (∀ W q, Fp (fun j => j = g) w W → Calls Try.prog 34 #[.slice a len cap, .int .i64 q] W fun e w' => e = .returned (.tuple #[(fun v => Value.int .i64 v) ((nread zs) q).1, .int .i64 ((nread zs) q).2.1, .int .i64 ((nread zs) q).2.2]) ∧ w' = W) := fun W q f => Nu.number_any a len cap zs q W (H W f) hcap
  obtain ⟨RR, hR⟩ : ∃ R, R = nread zs := ⟨_, rfl⟩
  rw [← hR] at HC ⊢
  replace K := hid K
  replace hR := hid hR
  replace hcs := hid hcs
  clear KP H
  go_enter Try.func33, Try.ntmps33
  go_wp2_with fail
  go_loopw [1, 9, 14] (fun pp ee ii wr => ∃ k : Nat, ∃ q : Int, pp = .int .i64 q ∧ ee = .int .i64 0 ∧ ii = .int .i64 k ∧ k ≤ n ∧ Hid ((rdk RR k p).2 = (q, 0)) ∧ Hid (wr.heap[g]? = some (.cells (puts cs o ((rdk RR k p).1.map (fun v => Value.int .i64 v))) t)) ∧ Hid (Fp (fun j => j = g) w wr)) (fun _ _ ii _ => n - (intOf ii).toNat)
  case atStart => exact ⟨0, p, rfl, rfl, rfl, by omega, rfl, K.out, Fp.refl _ _⟩
  case round =>
    obtain ⟨k, q, rfl, rfl, rfl, hk, hq, k1, fp⟩ := hrel
    by_cases hlt : k < n
    · have e1 := ptrs_at (HK.out _ fp.out) hlt
      have hl : Hid ((rdk RR k p).1.length = k) := rdk_len RR p k (by rw [hq.out])
      have hs : Hid (rdk RR (k + 1) p = if (RR q).2.2 ≠ 0 then ((rdk RR k p).1 ++ [(RR q).1], 0, (RR q).2.2) else ((rdk RR k p).1 ++ [(RR q).1], (RR q).2.1, 0)) := by
        show _ = _
        rw [rdk_succ, hq.out]
        simp
      have c := hid (HC.out wr q fp.out)
      have hst : Hid ((rdk RR (k + 1) p).2.2 ≠ 0 → rdk RR n p = rdk RR (k + 1) p) := fun h => by
        have := rdk_stop RR (k + 1) p h (n - (k + 1))
        rwa [show k + 1 + (n - (k + 1)) = n by omega] at this
      generalize RR q = r at *
      obtain ⟨r1, r2, r3⟩ := r
      dsimp only at c hs
      have hcell : Hid (∃ u, wr.cell? ⟨g, o + k, none⟩ = some u) := by
        have h : o + k < (puts cs o ((rdk RR k p).1.map (fun v => Value.int .i64 v))).size := by rw [puts_size]; have := hcs.out; omega
        exact ⟨_, cell_of k1.out (o + k) _ (Array.getElem?_eq_getElem h)⟩
      obtain ⟨u0, z0⟩ := hcell.out
      have z1 := fz_of k1.out (o + k)
      have k2 : Hid ((wr.setCell ⟨g, o + k, none⟩ ((fun v => Value.int .i64 v) r1)).heap[g]? = some (.cells (puts cs o (((rdk RR k p).1 ++ [r1]).map (fun v => Value.int .i64 v))) t)) := by
        have h := set_of k1.out (o + k) ((fun v => Value.int .i64 v) r1)
        have e : puts cs o (((rdk RR k p).1 ++ [r1]).map (fun v => Value.int .i64 v)) = (puts cs o ((rdk RR k p).1.map (fun v => Value.int .i64 v))).setIfInBounds (o + k) ((fun v => Value.int .i64 v) r1) := by
          rw [List.map_append]
          refine (puts_snoc ((fun v => Value.int .i64 v) r1) _ cs o).trans ?_
          rw [List.length_map, hl.out]
        rw [e]
        exact h
      have f2 : Hid (Fp (fun j => j = g) w (wr.setCell ⟨g, o + k, none⟩ ((fun v => Value.int .i64 v) r1))) := fp.out.set (.inl rfl) _ _
      have jk0 : (k : Int) < (n : Int) := by omega
      have jo0 : (0 : Int) ≤ (k : Int) := by omega
      dsimp only at k2 f2
      clear k1 fp hcell hl
      by_cases h3 : r3 = 0
      · subst h3
        have hs2 : Hid (rdk RR (k + 1) p = ((rdk RR k p).1 ++ [r1], r2, 0)) := by show _ = _; rw [hs.out]; simp
        clear hs hst
        go_wp2_with fail
        refine (c.out).mono ?_
        rintro e w' ⟨rfl, hw'⟩
        subst hw'
        go_wp2_with fail
        go_roundw
        case rel => exact ⟨k + 1, r2, rfl, rfl, by go_num, by omega, by show _ = _; rw [hs2.out], by show _ = _; rw [hs2.out]; exact k2.out, f2.out⟩
        case measure => simp [intOf]; omega
      · have hB : (r3 == 0) = false := by simp [h3]
        have hs2 : Hid (rdk RR n p = ((rdk RR k p).1 ++ [r1], 0, r3)) := by
          have e : rdk RR (k + 1) p = ((rdk RR k p).1 ++ [r1], 0, r3) := by rw [hs.out]; simp [h3]
          show _ = _
          rw [hst.out (by rw [e]; exact h3), e]
        clear hs hst
        go_wp2_with fail
        refine (c.out).mono ?_
        rintro e w' ⟨rfl, hw'⟩
        subst hw'
        go_wp2_with fail
        go_ret2
        refine ⟨by rw [hs2.out]; rfl, by rw [hs2.out]; exact k2.out, f2.out⟩
    · have hke : k = n := by omega
      subst hke
      go_wp2_with fail
      go_ret2
      exact ⟨by rw [hq.out]; rfl, k1.out, fp.out⟩
set_option maxHeartbeats 1000000 in
set_option maxRecDepth 20000 in
theorem into_u64 (a : Option Addr) (len cap : Nat) (zs : List Int) (p : Int) (w : World) (g o n gs : Nat) (cs : Array Value) (t : TypeId) (H : ∀ W, Fp (fun j => j = g) w W → Bytes W a len cap zs) (hcap : len ≤ 281474976710656) (K : w.heap[g]? = some (.cells cs t)) (hcs : o + n ≤ cs.size) (KP : w.heap[gs]? = some (.cells (ptrs g o n) 75)) (hne : gs ≠ g) (hn : n ≤ 1024) :
    Calls Try.prog 35 #[.slice a len cap, .int .i64 p, .func (.func 36) #[] #[], .slice (some ⟨gs, 0, none⟩) n n] w fun e w' => e = .returned (.tuple #[.int .i64 (rdk (Vb.vread zs) n p).2.1, .int .i64 (rdk (Vb.vread zs) n p).2.2]) ∧ w'.heap[g]? = some (.cells (puts cs o ((rdk (Vb.vread zs) n p).1.map (fun v => Value.int .u64 v))) t) ∧ Fp (fun j => j = g) w w' := by
  have HK : Hid (∀ W, Fp (fun j => j = g) w W → W.heap[gs]? = some (.cells (ptrs g o n) 75)) := fun W f => (f.block _ (blk_lt KP) hne).trans KP
  have HC : Hid (∀ W q, Fp (fun j => j = g) w W → Calls Try.prog 36 #[.slice a len cap, .int .i64 q] W fun e w' => e = .returned (.tuple #[(fun v => Value.int .u64 v) ((Vb.vread zs) q).1, .int .i64 ((Vb.vread zs) q).2.1, .int .i64 ((Vb.vread zs) q).2.2]) ∧ w' = W) := fun W q f => By.varint_any a len cap zs q W (H W f) hcap
  obtain ⟨RR, hR⟩ : ∃ R, R = Vb.vread zs := ⟨_, rfl⟩
  rw [← hR] at HC ⊢
  replace K := hid K
  replace hR := hid hR
  replace hcs := hid hcs
  clear KP H
  go_enter Try.func35, Try.ntmps35
  go_wp2_with fail
  go_loopw [1, 9, 14] (fun pp ee ii wr => ∃ k : Nat, ∃ q : Int, pp = .int .i64 q ∧ ee = .int .i64 0 ∧ ii = .int .i64 k ∧ k ≤ n ∧ Hid ((rdk RR k p).2 = (q, 0)) ∧ Hid (wr.heap[g]? = some (.cells (puts cs o ((rdk RR k p).1.map (fun v => Value.int .u64 v))) t)) ∧ Hid (Fp (fun j => j = g) w wr)) (fun _ _ ii _ => n - (intOf ii).toNat)
  case atStart => exact ⟨0, p, rfl, rfl, rfl, by omega, rfl, K.out, Fp.refl _ _⟩
  case round =>
    obtain ⟨k, q, rfl, rfl, rfl, hk, hq, k1, fp⟩ := hrel
    by_cases hlt : k < n
    · have e1 := ptrs_at (HK.out _ fp.out) hlt
      have hl : Hid ((rdk RR k p).1.length = k) := rdk_len RR p k (by rw [hq.out])
      have hs : Hid (rdk RR (k + 1) p = if (RR q).2.2 ≠ 0 then ((rdk RR k p).1 ++ [(RR q).1], 0, (RR q).2.2) else ((rdk RR k p).1 ++ [(RR q).1], (RR q).2.1, 0)) := by
        show _ = _
        rw [rdk_succ, hq.out]
        simp
      have c := hid (HC.out wr q fp.out)
      have hst : Hid ((rdk RR (k + 1) p).2.2 ≠ 0 → rdk RR n p = rdk RR (k + 1) p) := fun h => by
        have := rdk_stop RR (k + 1) p h (n - (k + 1))
        rwa [show k + 1 + (n - (k + 1)) = n by omega] at this
      generalize RR q = r at *
      obtain ⟨r1, r2, r3⟩ := r
      dsimp only at c hs
      have hcell : Hid (∃ u, wr.cell? ⟨g, o + k, none⟩ = some u) := by
        have h : o + k < (puts cs o ((rdk RR k p).1.map (fun v => Value.int .u64 v))).size := by rw [puts_size]; have := hcs.out; omega
        exact ⟨_, cell_of k1.out (o + k) _ (Array.getElem?_eq_getElem h)⟩
      obtain ⟨u0, z0⟩ := hcell.out
      have z1 := fz_of k1.out (o + k)
      have k2 : Hid ((wr.setCell ⟨g, o + k, none⟩ ((fun v => Value.int .u64 v) r1)).heap[g]? = some (.cells (puts cs o (((rdk RR k p).1 ++ [r1]).map (fun v => Value.int .u64 v))) t)) := by
        have h := set_of k1.out (o + k) ((fun v => Value.int .u64 v) r1)
        have e : puts cs o (((rdk RR k p).1 ++ [r1]).map (fun v => Value.int .u64 v)) = (puts cs o ((rdk RR k p).1.map (fun v => Value.int .u64 v))).setIfInBounds (o + k) ((fun v => Value.int .u64 v) r1) := by
          rw [List.map_append]
          refine (puts_snoc ((fun v => Value.int .u64 v) r1) _ cs o).trans ?_
          rw [List.length_map, hl.out]
        rw [e]
        exact h
      have f2 : Hid (Fp (fun j => j = g) w (wr.setCell ⟨g, o + k, none⟩ ((fun v => Value.int .u64 v) r1))) := fp.out.set (.inl rfl) _ _
      have jk0 : (k : Int) < (n : Int) := by omega
      have jo0 : (0 : Int) ≤ (k : Int) := by omega
      dsimp only at k2 f2
      clear k1 fp hcell hl
      by_cases h3 : r3 = 0
      · subst h3
        have hs2 : Hid (rdk RR (k + 1) p = ((rdk RR k p).1 ++ [r1], r2, 0)) := by show _ = _; rw [hs.out]; simp
        clear hs hst
        go_wp2_with fail
        refine (c.out).mono ?_
        rintro e w' ⟨rfl, hw'⟩
        subst hw'
        go_wp2_with fail
        go_roundw
        case rel => exact ⟨k + 1, r2, rfl, rfl, by go_num, by omega, by show _ = _; rw [hs2.out], by show _ = _; rw [hs2.out]; exact k2.out, f2.out⟩
        case measure => simp [intOf]; omega
      · have hB : (r3 == 0) = false := by simp [h3]
        have hs2 : Hid (rdk RR n p = ((rdk RR k p).1 ++ [r1], 0, r3)) := by
          have e : rdk RR (k + 1) p = ((rdk RR k p).1 ++ [r1], 0, r3) := by rw [hs.out]; simp [h3]
          show _ = _
          rw [hst.out (by rw [e]; exact h3), e]
        clear hs hst
        go_wp2_with fail
        refine (c.out).mono ?_
        rintro e w' ⟨rfl, hw'⟩
        subst hw'
        go_wp2_with fail
        go_ret2
        refine ⟨by rw [hs2.out]; rfl, by rw [hs2.out]; exact k2.out, f2.out⟩
    · have hke : k = n := by omega
      subst hke
      go_wp2_with fail
      go_ret2
      exact ⟨by rw [hq.out]; rfl, k1.out, fp.out⟩
set_option maxHeartbeats 1000000 in
set_option maxRecDepth 20000 in
theorem into_str (a : Option Addr) (len cap : Nat) (zs : List Int) (p : Int) (w : World) (g o n gs : Nat) (cs : Array Value) (t : TypeId) (H : ∀ W, Fp (fun j => j = g) w W → Bytes W a len cap zs) (hcap : len ≤ 281474976710656) (K : w.heap[g]? = some (.cells cs t)) (hcs : o + n ≤ cs.size) (KP : w.heap[gs]? = some (.cells (ptrs g o n) 108)) (hne : gs ≠ g) (hn : n ≤ 1024) :
    Calls Try.prog 55 #[.slice a len cap, .int .i64 p, .func (.func 56) #[] #[], .slice (some ⟨gs, 0, none⟩) n n] w fun e w' => e = .returned (.tuple #[.int .i64 (rdk (By.tread zs) n p).2.1, .int .i64 (rdk (By.tread zs) n p).2.2]) ∧ w'.heap[g]? = some (.cells (puts cs o ((rdk (By.tread zs) n p).1.map (fun v => Value.string (By.str v)))) t) ∧ Fp (fun j => j = g) w w' := by
  have HK : Hid (∀ W, Fp (fun j => j = g) w W → W.heap[gs]? = some (.cells (ptrs g o n) 108)) := fun W f => (f.block _ (blk_lt KP) hne).trans KP
  have HC : Hid (∀ W q, Fp (fun j => j = g) w W → Calls Try.prog 56 #[.slice a len cap, .int .i64 q] W fun e w' => e = .returned (.tuple #[(fun v => Value.string (By.str v)) ((By.tread zs) q).1, .int .i64 ((By.tread zs) q).2.1, .int .i64 ((By.tread zs) q).2.2]) ∧ w' = W) := fun W q f => By.text_any a len cap zs q W (H W f) hcap
  obtain ⟨RR, hR⟩ : ∃ R, R = By.tread zs := ⟨_, rfl⟩
  rw [← hR] at HC ⊢
  replace K := hid K
  replace hR := hid hR
  replace hcs := hid hcs
  clear KP H
  go_enter Try.func55, Try.ntmps55
  go_wp2_with fail
  go_loopw [1, 9, 14] (fun pp ee ii wr => ∃ k : Nat, ∃ q : Int, pp = .int .i64 q ∧ ee = .int .i64 0 ∧ ii = .int .i64 k ∧ k ≤ n ∧ Hid ((rdk RR k p).2 = (q, 0)) ∧ Hid (wr.heap[g]? = some (.cells (puts cs o ((rdk RR k p).1.map (fun v => Value.string (By.str v)))) t)) ∧ Hid (Fp (fun j => j = g) w wr)) (fun _ _ ii _ => n - (intOf ii).toNat)
  case atStart => exact ⟨0, p, rfl, rfl, rfl, by omega, rfl, K.out, Fp.refl _ _⟩
  case round =>
    obtain ⟨k, q, rfl, rfl, rfl, hk, hq, k1, fp⟩ := hrel
    by_cases hlt : k < n
    · have e1 := ptrs_at (HK.out _ fp.out) hlt
      have hl : Hid ((rdk RR k p).1.length = k) := rdk_len RR p k (by rw [hq.out])
      have hs : Hid (rdk RR (k + 1) p = if (RR q).2.2 ≠ 0 then ((rdk RR k p).1 ++ [(RR q).1], 0, (RR q).2.2) else ((rdk RR k p).1 ++ [(RR q).1], (RR q).2.1, 0)) := by
        show _ = _
        rw [rdk_succ, hq.out]
        simp
      have c := hid (HC.out wr q fp.out)
      have hst : Hid ((rdk RR (k + 1) p).2.2 ≠ 0 → rdk RR n p = rdk RR (k + 1) p) := fun h => by
        have := rdk_stop RR (k + 1) p h (n - (k + 1))
        rwa [show k + 1 + (n - (k + 1)) = n by omega] at this
      generalize RR q = r at *
      obtain ⟨r1, r2, r3⟩ := r
      dsimp only at c hs
      have hcell : Hid (∃ u, wr.cell? ⟨g, o + k, none⟩ = some u) := by
        have h : o + k < (puts cs o ((rdk RR k p).1.map (fun v => Value.string (By.str v)))).size := by rw [puts_size]; have := hcs.out; omega
        exact ⟨_, cell_of k1.out (o + k) _ (Array.getElem?_eq_getElem h)⟩
      obtain ⟨u0, z0⟩ := hcell.out
      have z1 := fz_of k1.out (o + k)
      have k2 : Hid ((wr.setCell ⟨g, o + k, none⟩ ((fun v => Value.string (By.str v)) r1)).heap[g]? = some (.cells (puts cs o (((rdk RR k p).1 ++ [r1]).map (fun v => Value.string (By.str v)))) t)) := by
        have h := set_of k1.out (o + k) ((fun v => Value.string (By.str v)) r1)
        have e : puts cs o (((rdk RR k p).1 ++ [r1]).map (fun v => Value.string (By.str v))) = (puts cs o ((rdk RR k p).1.map (fun v => Value.string (By.str v)))).setIfInBounds (o + k) ((fun v => Value.string (By.str v)) r1) := by
          rw [List.map_append]
          refine (puts_snoc ((fun v => Value.string (By.str v)) r1) _ cs o).trans ?_
          rw [List.length_map, hl.out]
        rw [e]
        exact h
      have f2 : Hid (Fp (fun j => j = g) w (wr.setCell ⟨g, o + k, none⟩ ((fun v => Value.string (By.str v)) r1))) := fp.out.set (.inl rfl) _ _
      have jk0 : (k : Int) < (n : Int) := by omega
      have jo0 : (0 : Int) ≤ (k : Int) := by omega
      dsimp only at k2 f2
      clear k1 fp hcell hl
      by_cases h3 : r3 = 0
      · subst h3
        have hs2 : Hid (rdk RR (k + 1) p = ((rdk RR k p).1 ++ [r1], r2, 0)) := by show _ = _; rw [hs.out]; simp
        clear hs hst
        go_wp2_with fail
        refine (c.out).mono ?_
        rintro e w' ⟨rfl, hw'⟩
        subst hw'
        go_wp2_with fail
        go_roundw
        case rel => exact ⟨k + 1, r2, rfl, rfl, by go_num, by omega, by show _ = _; rw [hs2.out], by show _ = _; rw [hs2.out]; exact k2.out, f2.out⟩
        case measure => simp [intOf]; omega
      · have hB : (r3 == 0) = false := by simp [h3]
        have hs2 : Hid (rdk RR n p = ((rdk RR k p).1 ++ [r1], 0, r3)) := by
          have e : rdk RR (k + 1) p = ((rdk RR k p).1 ++ [r1], 0, r3) := by rw [hs.out]; simp [h3]
          show _ = _
          rw [hst.out (by rw [e]; exact h3), e]
        clear hs hst
        go_wp2_with fail
        refine (c.out).mono ?_
        rintro e w' ⟨rfl, hw'⟩
        subst hw'
        go_wp2_with fail
        go_ret2
        refine ⟨by rw [hs2.out]; rfl, by rw [hs2.out]; exact k2.out, f2.out⟩
    · have hke : k = n := by omega
      subst hke
      go_wp2_with fail
      go_ret2
      exact ⟨by rw [hq.out]; rfl, k1.out, fp.out⟩
end Go.Proofs.Ytnpeocoipodmfaa.Ri
