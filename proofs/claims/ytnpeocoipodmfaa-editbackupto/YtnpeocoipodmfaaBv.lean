/- appendNumbers and appendSaid by their contracts. -/
import Derived.Test.YtnpeocoipodmfaaBu
namespace Go.Proofs.Ytnpeocoipodmfaa.Bv
open Go.ChangeShapes Go.WideShapes Go.ChangeAt Go.RowKit
open Go.Proofs.Ytnpeocoipodmfaa.Gr
open Go.Proofs.Ytnpeocoipodmfaa.Bu
open Go.Proofs.Ytnpeocoipodmfaa.Le (wpList_append_run)
open Go.Proofs.Ytnpeocoipodmfaa.By (Row Bytes tx)
set_option linter.unusedVariables false
set_option linter.unusedSimpArgs false

def u64 (x : Int) : Prop := 0 ≤ x ∧ x ≤ 18446744073709551615
/-- Numbers as the layout has them. -/
def vbs (vs : List Int) : List Int := vs.flatMap Vb.vb
theorem vbs_len : ∀ vs, (vbs vs).length ≤ 10 * vs.length
  | [] => by simp [vbs]
  | x :: r => by
    have := vbs_len r
    have := Vb.vb_le x
    unfold vbs at *
    simp only [List.flatMap_cons, List.length_append, List.length_cons]
    omega
theorem vbs_snoc (vs : List Int) (x : Int) : vbs (vs ++ [x]) = vbs vs ++ Vb.vb x := by simp [vbs]
theorem take_snoc' {vs : List Int} {k : Nat} (h : k < vs.length) : vs.take (k + 1) = vs.take k ++ [vs.getD k 0] := by
  rw [List.take_succ_eq_append_getElem h, List.getD_eq_getElem?_getD, List.getElem?_eq_getElem h]
  rfl
theorem num_at {W : World} {g : Nat} {vs : List Int} (K : W.heap[g]? = some (.cells (vs.map (Value.int .u64)).toArray 22)) {k : Nat} (h : k < vs.length) : W.cell? ⟨g, k, none⟩ = some (.int .u64 (vs.getD k 0)) := by
  refine cell_of K k _ ?_
  rw [List.getElem?_toArray, List.getElem?_map, List.getElem?_eq_getElem h, List.getD_eq_getElem?_getD, List.getElem?_eq_getElem h]
  rfl
/-- append of a made row onto one of the call's own. -/
theorem app_row {w W : World} {base : Nat} {v : Value} {l : List Int} (O : eB.Own w base v l) (hb : base ≤ w.heap.size) (hbW : Below w.heap.size w W) {g n c : Nat} {xs : List Int} (R : Row W w.heap.size g n c xs) (hok : ∀ x ∈ xs, 0 ≤ x ∧ x ≤ 255) (hn : l.length + n ≤ 140737488355328) :
    ∃ v' W', (Builtin.append_ #[27, 27] 27 #[v, .slice (some ⟨g, 0, none⟩) n c]).run Try.prog W = .ok v' W' ∧ eB.Own W' base v' (l ++ xs) ∧ Gw w W' v v' := by
  obtain ⟨hlen, oR⟩ := own_of R
  obtain ⟨a, c', e, S, _⟩ := El.Own.sl (E := eB) oR hok
  cases e
  obtain ⟨v', W', r, o, gr, q⟩ := El.app eB W base v l (El.Own.later (E := eB) O hbW) (some ⟨g, 0, none⟩) _ _ xs (hlen ▸ S) (by show (_ + _) * 1 ≤ _; omega) (by omega) (by have := hbW.size; omega)
  exact ⟨v', W', by first | exact r | (subst hlen; exact r), o, (Gw.refl w v).below hbW |>.tr (Gw.grown gr q)⟩
set_option maxRecDepth 20000 in
set_option maxHeartbeats 1000000 in
theorem numbers_any (base g N : Nat) (v : Value) (l vs : List Int) (w : World) (O : eB.Own w base v l) (hb : base ≤ w.heap.size) (K : w.heap[g]? = some (.cells (vs.map (Value.int .u64)).toArray 22)) (hN : N = vs.length) (hvs : ∀ x ∈ vs, u64 x) (hn : l.length + 10 * N ≤ 140737488355328) (hm : N ≤ 1024) :
    Calls Try.prog 24 #[v, .slice (some ⟨g, 0, none⟩) N N] w fun e w' => ∃ v', e = .returned v' ∧ eB.Own w' base v' (l ++ vbs vs) ∧ Gw w w' v v' := by
  have hK : Hid (∀ W v1, Gw w W v v1 → W.heap[g]? = some (.cells (vs.map (Value.int .u64)).toArray 22)) := fun W v1 h => h.blk O K (by decide)
  have hR : Hid (∀ W v1, Gw w W v v1 → base ≤ W.heap.size) := fun W v1 h => Nat.le_trans hb h.fp.size
  replace hN := hid hN
  replace hvs := hid hvs
  replace hb := hid hb
  replace O := hid O
  clear K
  go_enter Try.func24, Try.ntmps24
  go_wp2_with fail
  go_loopw [0, 9] (fun vv i wr => ∃ k : Nat, i = .int .i64 k ∧ k ≤ N ∧ Hid (eB.Own wr base vv (l ++ vbs (vs.take k))) ∧ Hid (Gw w wr v vv)) (fun _ i _ => N - (intOf i).toNat)
  case atStart => exact ⟨0, rfl, by omega, by show eB.Own _ _ _ _; simpa [vbs] using O.out, Gw.refl w v⟩
  case round =>
    obtain ⟨k, rfl, hk, o, gw⟩ := hrel
    obtain ⟨ra, rc, hra⟩ := row_block o.out
    generalize (l ++ vbs (vs.take k)).length = rn at hra
    subst hra
    by_cases hlt : k < N
    · have hks : k < vs.length := by rw [← hN.out]; exact hlt
      have e1 := num_at (hK.out _ _ gw.out) hks
      have htk : Hid (vbs (vs.take (k + 1)) = vbs (vs.take k) ++ Vb.vb (vs.getD k 0)) := by show _ = _; rw [take_snoc' hks, vbs_snoc]
      have hx : Hid (u64 (vs.getD k 0)) := by
        refine hvs.out _ ?_
        rw [List.getD_eq_getElem?_getD, List.getElem?_eq_getElem hks]
        exact List.getElem_mem hks
      have hle : Hid ((vbs (vs.take k)).length ≤ 10 * k) := by
        have := vbs_len (vs.take k)
        rw [List.length_take, Nat.min_eq_left (by omega)] at this
        exact this
      clear hks
      generalize vs.getD k 0 = x at *
      have hl10 := Vb.vb_le x
      have cp := hid (fun W => putv_any x hx.out W)
      have hV := hid (Vb.vb_bytes x hx.out)
      obtain ⟨V, hVe⟩ : ∃ V, V = Vb.vb x := ⟨_, rfl⟩
      rw [← hVe] at cp hV htk hl10
      replace hVe := hid hVe
      obtain ⟨m, hme⟩ : ∃ m, m = V.length := ⟨_, rfl⟩
      rw [← hme] at cp hl10
      replace hme := hid hme
      have jk0 : (k : Int) < (N : Int) := by omega
      have jo0 : (0 : Int) ≤ (k : Int) := by omega
      go_wp2_with (first
        | (go_at_call 47; refine (cp.out _).mono ?_; rintro e w2 ⟨c, rfl, R, b2⟩; obtain ⟨v3, W3, r3, o3, g3⟩ := app_row o.out (hR.out _ _ gw.out) b2 R hV.out (by rw [List.length_append]; have := hle.out; omega); rw [List.append_assoc, ← htk.out] at o3; replace o3 := hid o3; replace g3 := hid (gw.out.tr g3); replace r3 := hid r3; clear R b2)
        | (at_builtin; go_loud (refine wpList_append_run rfl (.tmp 13) (.tmp 15) 27 27 rfl (.slice ra rn rc) (.slice (some ⟨wr.heap.size, 0, none⟩) m c) v3 rfl rfl r3.out ?_)))
      go_roundw
      case rel => exact ⟨k + 1, by go_num, by omega, o3, g3⟩
      case measure => simp [intOf]; omega
    · have hke : k = N := by omega
      subst hke
      have ht : Hid (vs.take k = vs) := by show _ = _; rw [hN.out, List.take_length]
      rw [ht.out] at o
      go_wp2_with fail
      go_ret
      exact ⟨_, rfl, o.out, gw.out⟩
end Go.Proofs.Ytnpeocoipodmfaa.Bv
