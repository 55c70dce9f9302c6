/- putIn by its contract. -/
import Derived.Test.YtkpihibeohjfnaaTo
import Derived.Test.YtkpihibeohjfnaaSg
namespace Go.Proofs.Ytkpihibeohjfnaa.Pi
open Go.ChangeShapes Go.WideShapes Go.ChangeAt Go.RowKit
open Go.Proofs.Ytkpihibeohjfnaa.Gr
open Go.Proofs.Ytkpihibeohjfnaa.Ev
open Go.Proofs.Ytkpihibeohjfnaa.Oe
open Go.Proofs.Ytkpihibeohjfnaa.Lv
open Go.Proofs.Ytkpihibeohjfnaa.Vp
open Go.Proofs.Ytkpihibeohjfnaa.Vr
open Go.Proofs.Ytkpihibeohjfnaa.Vt
open Go.Proofs.Ytkpihibeohjfnaa.Vu (cell_later)
open Go.Proofs.Ytkpihibeohjfnaa.Ou
open Go.Proofs.Ytkpihibeohjfnaa.To (step_append_run)
open Go.Proofs.Ytkpihibeohjfnaa.Aq (own_ty)
open Go.Proofs.Ytkpihibeohjfnaa.Cq
open Go.Proofs.Ytkpihibeohjfnaa.Sg
set_option linter.unusedVariables false
set_option linter.unusedSimpArgs false

variable {w W : World} {g : Nat} {xs : List Lf}
theorem put2 (h : Ou w W g xs) {k : Nat} (hk : k < xs.length) (f : Fi) (hf : f.ok) (cs : Array Value) (hcs : cs = (eFi.cs f).toArray) (hn : (xs.getD k zl).fs.length + 1 ≤ 2199023255552) :
    ∃ a' n' c' W', (Builtin.append_ #[39, 39] 39 #[hd (xs.getD k zl), .slice (some ⟨W.heap.size, 0, none⟩) 1 1]).run Try.prog (W.alloc (.cells cs 43)) = .ok (.slice a' n' c') W' ∧
      W'.heap[g]? = some (.cells (xs.map hd).toArray 39) ∧ (∀ j, j < W.heap.size → (hd (xs.getD k zl)).ownBlock ≠ some j → W'.heap[j]? = W.heap[j]?) ∧ Ou w (W'.setCell ⟨g, k, none⟩ (.slice a' n' c')) g (xs.set k ⟨a', n', c', (xs.getD k zl).fs ++ [f]⟩) := by
  obtain ⟨a', n', c', W', r, hb, _, O⟩ := h.put hk f hf cs hcs hn
  obtain ⟨hkn, hko, hkf⟩ := h.r k hk
  obtain ⟨v', W2, r1, o1, g1, q1⟩ := El.app1 eFi W w.heap.size (hd (xs.getD k zl)) (xs.getD k zl).fs f cs hcs hko (by show (_ + 1) * 64 ≤ _; omega) (by omega) h.lo.size
  have r1' : (Builtin.append_ #[39, 39] 39 #[hd (xs.getD k zl), .slice (some ⟨W.heap.size, 0, none⟩) 1 1]).run Try.prog (W.alloc (.cells cs 43)) = .ok v' W2 := r1
  rw [r] at r1'
  injection r1' with _ e2
  subst e2
  exact ⟨a', n', c', W', r, hb, fun j hj hne => g1.block j hj (fun e => hne e.symm), O⟩
/-- A level put in order. -/
theorem sorted_ou (h : Ou w W g xs) {k : Nat} (hk : k < xs.length) {W' : World} {fs : List Fi} (gr : W.grownBy W' (hd (xs.getD k zl)).ownBlock) (o : eFi.Own W' w.heap.size (hd (xs.getD k zl)) fs) (hp : fs.Perm (xs.getD k zl).fs) :
    Ou w W' g (xs.set k ⟨(xs.getD k zl).a, (xs.getD k zl).n, (xs.getD k zl).c, fs⟩) := by
  obtain ⟨hkn, hko, hkf⟩ := h.r k hk
  have hmap : (xs.set k ⟨(xs.getD k zl).a, (xs.getD k zl).n, (xs.getD k zl).c, fs⟩).map hd = xs.map hd := by
    rw [List.map_set]
    apply List.ext_getElem
    · simp
    · intro i h1 h2
      rw [List.getElem_set]
      split
      · rename_i e
        subst e
        simp only [List.getElem_map]
        rw [List.getD_eq_getElem?_getD, List.getElem?_eq_getElem hk]
        rfl
      · rfl
  have hhd : ∀ i, hd ((xs.set k ⟨(xs.getD k zl).a, (xs.getD k zl).n, (xs.getD k zl).c, fs⟩).getD i zl) = hd (xs.getD i zl) := by
    intro i
    by_cases e : k = i
    · subst e; rw [Go.Proofs.Ytkpihibeohjfnaa.Ou.getD_set_eq hk]; rfl
    · rw [Go.Proofs.Ytkpihibeohjfnaa.Ou.getD_set_ne e]
  refine ⟨?_, h.hg, ?_, ?_, ?_⟩
  · rw [hmap]
    exact (gr.block g (blk_lt h.blk) (fun e => h.neg hk e.symm rfl)).trans h.blk
  · intro i hi
    rw [List.length_set] at hi
    rw [hhd]
    by_cases e : k = i
    · subst e
      rw [Go.Proofs.Ytkpihibeohjfnaa.Ou.getD_set_eq hk]
      exact ⟨hkn.trans hp.length_eq.symm, o, fun f hf => hkf f (hp.mem_iff.1 hf)⟩
    · rw [Go.Proofs.Ytkpihibeohjfnaa.Ou.getD_set_ne e]
      have hy := (h.r i hi).2.1
      exact ⟨(h.r i hi).1, own_blocks hy (fun j hj => gr.block j (own_lt hy j hj).2 (fun e' => h.dis k i j hk hi e e'.symm hj)), (h.r i hi).2.2⟩
  · intro i i' j hi hi' hne hj
    rw [List.length_set] at hi hi'
    rw [hhd] at hj ⊢
    exact h.dis i i' j hi hi' hne hj
  · exact below_grown h.lo h.lo.size gr (fun j hj => (own_lt hko j hj).1)
/-- The files that come into level k. -/
def cm (k : Nat) (co : List Ad) : List Fi := (co.filter fun x => x.l == (k : Int)).map Ad.f
theorem cm_snoc (k : Nat) (co : List Ad) (x : Ad) : cm k (co ++ [x]) = cm k co ++ if x.l = (k : Int) then [x.f] else [] := by
  unfold cm
  rw [List.filter_append, List.map_append]
  congr 1
  by_cases h : x.l = (k : Int)
  · rw [List.filter_cons_of_pos (by simpa using h), if_pos h]; rfl
  · rw [List.filter_cons_of_neg (by simpa using h), if_neg h]; rfl
theorem cm_len (k : Nat) (co : List Ad) : (cm k co).length ≤ co.length := by
  unfold cm
  rw [List.length_map]
  exact List.length_filter_le _ _
inductive PutP (w : World) (g : Nat) (M : List (List Fi)) (co : List Ad) : Ending → World → Prop
  | yes (w' : World) (xs : List Lf) (h1 : ∀ x ∈ co, fr 0 x.l ((M.length : Int) - 1) = true) (h2 : Ou w w' g xs) (h3 : xs.length = M.length)
      (h4 : ∀ k, k < M.length → ((xs.getD k zl).fs).Perm (M.getD k [] ++ cm k co) ∧ ((xs.getD k zl).fs).Pairwise (fun x y => lF k y x = false)) : PutP w g M co (.returned (.bool true)) w'
  | no (w' : World) (x : Ad) (h1 : x ∈ co) (h2 : fr 0 x.l ((M.length : Int) - 1) = false) (h3 : Below w.heap.size w w') : PutP w g M co (.returned (.bool false)) w'
set_option maxRecDepth 20000 in
set_option maxHeartbeats 4000000 in
theorem putin_any (len g : Nat) (xs0 : List Lf) (M : List (List Fi)) (pa : Option Addr) (pn pc : Nat) (co : List Ad) (w W : World) (O : Ou w W g xs0) (hM : xs0.map Lf.fs = M) (hlen : M.length = len) (hw : wL M ≤ 1048576) (HP : eAd.Sl w pa pn pc co) (hp8 : pn ≤ 1048576) :
    Calls Try.prog 43 #[.slice (some ⟨g, 0, none⟩) len len, .slice pa pn pc] W fun e w' => PutP w g M co e w' := by
  have hx0 : Hid (xs0.length = len) := by show _ = _; rw [← hlen, ← hM, List.length_map]
  have hfs0 : Hid (∀ k, k < len → (xs0.getD k zl).fs = M.getD k []) := by
    intro k hk
    have hk' : k < xs0.length := by rw [hx0.out]; exact hk
    rw [← hM, List.getD_eq_getElem?_getD, List.getD_eq_getElem?_getD, List.getElem?_map, List.getElem?_eq_getElem hk']
    rfl
  have hML : Hid (∀ k, k < len → (M.getD k []).length ≤ 1048576) := by
    intro k hk
    have := wL_at (L := M) (i := k) (by omega)
    omega
  have hll := wL_len M
  have hn8 : len ≤ 1048576 := by omega
  have HPl : Hid (∀ W, Below w.heap.size w W → eAd.Sl W pa pn pc co) := fun W b => HP.later b
  have hpl := hid HP.n
  have hpc := HP.c
  have ct := hid (fun (i : Int) (W : World) => isThere_any (some ⟨g, 0, none⟩) len len i W hn8 (Nat.le_refl _))
  replace O := hid O
  replace hlen := hid hlen
  replace hw := hid hw
  clear HP hM hll
  go_enter Try.func43, Try.ntmps43
  go_wp2_with fail
  go_loopw [11] (fun jj wr => ∃ (j : Nat) (xs : List Lf), jj = .int .i64 j ∧ j ≤ pn ∧ Hid (xs.length = len) ∧ Hid (∀ x ∈ co.take j, fr 0 x.l ((len : Int) - 1) = true) ∧ Hid (∀ k, k < len → (xs.getD k zl).fs = M.getD k [] ++ cm k (co.take j)) ∧ Hid (Ou w wr g xs)) (fun jj _ => pn - (intOf jj).toNat)
  case atStart => exact ⟨0, xs0, rfl, by omega, hx0, by simp [Hid], fun k hk => by rw [hfs0.out k hk]; simp [cm], O⟩
  case round =>
    clear O hx0 hfs0
    obtain ⟨j, xs, rfl, hj, hxl, hin, hx, O⟩ := hrel
    by_cases hjl : j < pn
    · obtain ⟨pb, po, rfl, hat⟩ := get1 (HPl.out wr O.out.lo) j hjl
      have hjc : j < co.length := by rw [hpl.out]; exact hjl
      have hA := ad_at (hat j hjl)
      have htk : Hid (co.take (j + 1) = co.take j ++ [co.getD j za]) := El.take_snoc (E := eAd) hjc
      have hok : (co.getD j za).ok := (HPl.out wr O.out.lo).ok _ (El.get_mem (E := eAd) hjc)
      have hmem : Hid (co.getD j za ∈ co) := El.get_mem (E := eAd) hjc
      have hmt : Hid (co.getD j za ∈ co.take (j + 1)) := by show _ ∈ _; rw [htk.out]; simp
      rw [show eAd.z = za from rfl] at hA
      simp only [show eAd.k = 7 from rfl] at hA
      clear hat hjc
      generalize co.getD j za = y at *
      obtain ⟨yl, n, z, s, t, lo, hi2⟩ := y
      obtain ⟨e1, e2, e3, e4, e5, e6, e7⟩ := hA
      dsimp only at e1 e2 e3 e4 e5 e6 e7
      have jk0 : (j : Int) < (pn : Int) := by omega
      have jo0 : (0 : Int) ≤ (j : Int) := by omega
      obtain ⟨gx, hgx⟩ : ∃ g, g = wr.heap.size := ⟨_, rfl⟩
      obtain ⟨W1, hW1⟩ : ∃ W, W = wr.alloc (.cells #[.int .i64 yl, .int .i64 n, .int .i64 z, .string s, .string t, .int .u64 lo, .int .u64 hi2] 45) := ⟨_, rfl⟩
      have kx : W1.heap[gx]? = some (.cells #[.int .i64 yl, .int .i64 n, .int .i64 z, .string s, .string t, .int .u64 lo, .int .u64 hi2] 45) := by rw [hW1, hgx]; exact new_at _ _
      have bx : Below wr.heap.size wr W1 := by rw [hW1]; exact box_below _ _
      have O1 := hid (O.out.later bx)
      have c1 := hid (ct.out yl)
      by_cases hfr : fr 0 yl ((len : Int) - 1) = true
      · rw [hfr] at c1
        obtain ⟨i, rfl⟩ : ∃ i : Nat, yl = (i : Int) := by
          refine ⟨yl.toNat, ?_⟩
          unfold fr at hfr
          simp at hfr
          omega
        have hlt : i < len := by
          unfold fr at hfr
          simp at hfr
          omega
        have hil : i < xs.length := by rw [hxl.out]; exact hlt
        have hcl : (cm i (co.take j)).length ≤ 1048576 := Nat.le_trans (cm_len _ _) (by rw [List.length_take]; omega)
        have hnl : (xs.getD i zl).fs.length + 1 ≤ 2199023255552 := by
          rw [hx.out i hlt, List.length_append]
          have := hML.out i hlt
          omega
        obtain ⟨a', n', c', W3, r3, hb3, hst3, O3⟩ := put2 (O1.out.later (drew_below W1)) hil ⟨n, z, s, t, lo, hi2⟩ hok.2 #[.int .i64 n, .int .i64 z, .string s, .string t, .int .u64 lo, .int .u64 hi2] rfl hnl
        obtain ⟨xa, xn, xc, hhd⟩ : ∃ xa xn xc, hd (xs.getD i zl) = .slice xa xn xc := ⟨_, _, _, rfl⟩
        have hne : (hd (xs.getD i zl)).ownBlock ≠ some gx := by
          intro e
          obtain ⟨c1, e1⟩ := own_ty (O1.out.r i hil).2.1 gx e
          rw [kx] at e1
          injection e1 with e3
          injection e3 with _ e4
          revert e4
          show ¬ ((45 : Nat) = 43)
          decide
        have kx3 : W3.heap[gx]? = some (.cells #[.int .i64 i, .int .i64 n, .int .i64 z, .string s, .string t, .int .u64 lo, .int .u64 hi2] 45) := (hst3 gx (blk_lt kx) hne).trans kx
        have g1 : W1.cell? ⟨g, i, none⟩ = some (.slice xa xn xc) := by rw [← hhd]; exact O1.out.cell hil
        have g2 : W3.cell? ⟨g, i, none⟩ = some (.slice xa xn xc) := by rw [← hhd]; exact cell_of hb3 i _ (map_get hil)
        have g3 : W3.frozen? ⟨g, i, none⟩ = false := fz_of hb3 i
        have g4 : (W1.alloc (.cells #[.int .i64 n, .int .i64 z, .string s, .string t, .int .u64 lo, .int .u64 hi2] 43)).cell? ⟨g, i, none⟩ = some (.slice xa xn xc) := cell_later g1 (box_below _ _)
        have y0 := cell_of kx 0 _ rfl
        have y1 := cell_of kx 1 _ rfl
        have y2 := cell_of kx 2 _ rfl
        have y3 := cell_of kx 3 _ rfl
        have y4 := cell_of kx 4 _ rfl
        have y5 := cell_of kx 5 _ rfl
        have y6 := cell_of kx 6 _ rfl
        have z0 := cell_of kx3 0 _ rfl
        have z1 : (W1.alloc (.cells #[.int .i64 n, .int .i64 z, .string s, .string t, .int .u64 lo, .int .u64 hi2] 43)).cell? ⟨gx, 0, none⟩ = some (.int .i64 i) := cell_later y0 (box_below _ _)
        rw [hhd] at r3
        change (Builtin.append_ #[39, 39] 39 #[.slice xa xn xc, .slice (some ⟨W1.heap.size, 0, none⟩) 1 1]).run Try.prog (W1.alloc (.cells #[.int .i64 n, .int .i64 z, .string s, .string t, .int .u64 lo, .int .u64 hi2] 43)).drew = _ at r3
        have hx' : Hid (∀ k, k < len → ((xs.set i ⟨a', n', c', (xs.getD i zl).fs ++ [⟨n, z, s, t, lo, hi2⟩]⟩).getD k zl).fs = M.getD k [] ++ cm k (co.take (j + 1))) := by
          intro k hk
          rw [htk.out, cm_snoc]
          by_cases e : k = i
          · subst e; rw [Go.Proofs.Ytkpihibeohjfnaa.Ou.getD_set_eq hil, if_pos rfl, ← List.append_assoc, hx.out k hk]
          · rw [Go.Proofs.Ytkpihibeohjfnaa.Ou.getD_set_ne (fun h => e h.symm), if_neg (by intro h; apply e; have h' : (i : Int) = (k : Int) := h; omega), List.append_nil, hx.out k hk]
        have hxl' : Hid ((xs.set i ⟨a', n', c', (xs.getD i zl).fs ++ [⟨n, z, s, t, lo, hi2⟩]⟩).length = len) := by show _ = _; rw [List.length_set]; exact hxl.out
        have hin' : Hid (∀ x ∈ co.take (j + 1), fr 0 x.l ((len : Int) - 1) = true) := by
          intro x hx
          rw [htk.out, List.mem_append, List.mem_singleton] at hx
          rcases hx with hx | hx
          · exact hin.out x hx
          · rw [hx]; exact hfr
        have ik0 : (i : Int) < (len : Int) := by omega
        have ok0 : (0 : Int) ≤ (i : Int) := by omega
        replace hgx := hid hgx
        replace hW1 := hid hW1
        replace r3 := hid r3
        replace O3 := hid O3
        replace hhd := hid hhd
        clear kx kx3 bx hin hcl hnl hok hb3 hst3 O1 O hx hxl hmt hmem htk hne hfr hil
        go_wp2_with (first | (go_at_call 46; rw [← hW1.out]; refine (c1.out _).mono ?_; rintro e w8 ⟨rfl, hw8⟩; subst hw8))
        rw [← hgx.out]
        go_region_law (refine step_append_run rfl (.tmp 27) (.tmp 30) 39 39 rfl (.slice xa xn xc) (.slice (some ⟨w8.heap.size, 0, none⟩) 1 1) (.slice a' n' c') (by simp [Act.eval, Act.put]) (by simp [Act.eval, Act.put]) r3.out ?_)
        all_goals
          go_wp2_with fail
          go_roundw
          case rel => exact ⟨j + 1, _, by go_num, by omega, hxl', hin', hx', O3⟩
          case measure => simp [intOf]; omega
      · have hfr' : fr 0 yl ((len : Int) - 1) = false := by cases h : fr 0 yl ((len : Int) - 1) <;> simp_all
        rw [hfr'] at c1
        have y0 := cell_of kx 0 _ rfl
        replace hgx := hid hgx
        replace hW1 := hid hW1
        replace hfr' := hid hfr'
        clear kx bx hin hok hx hxl hmt htk hfr
        go_wp2_with (first | (go_at_call 46; rw [← hW1.out]; refine (c1.out _).mono ?_; rintro e w8 ⟨rfl, hw8⟩; subst hw8))
        go_ret
        exact PutP.no _ _ hmem.out (by rw [hlen.out]; exact hfr'.out) O1.out.lo
    · have hje : j = pn := by omega
      subst hje
      have hin' : Hid (∀ x ∈ co, fr 0 x.l ((len : Int) - 1) = true) := by
        have := hin.out
        rwa [← hpl.out, List.take_length] at this
      have hx' : Hid (∀ k, k < len → (xs.getD k zl).fs = M.getD k [] ++ cm k co) := by
        have := hx.out
        rwa [← hpl.out, List.take_length] at this
      have hbl : Hid (∀ k, k < len → (M.getD k [] ++ cm k co).length ≤ 1099511627776) := by
        intro k hk
        have h1 := hML.out k hk
        have h2 := cm_len k co
        rw [hpl.out] at h2
        rw [List.length_append]
        omega
      clear hin hx HPl
      go_wp2_with fail
      go_loopw [36] (fun ii wr => ∃ (i : Nat) (xs : List Lf), ii = .int .i64 i ∧ i ≤ len ∧ Hid (xs.length = len) ∧ Hid (∀ k, k < len → ((xs.getD k zl).fs).Perm (M.getD k [] ++ cm k co)) ∧ Hid (∀ k, k < i → ((xs.getD k zl).fs).Pairwise (fun x y => lF k y x = false)) ∧ Hid (Ou w wr g xs)) (fun ii _ => len - (intOf ii).toNat)
      case atStart => exact ⟨0, xs, rfl, by omega, hxl, fun k hk => by rw [hx'.out k hk], fun k hk => by omega, O⟩
      case round =>
        clear O hxl hx'
        obtain ⟨i, xs, rfl, hi, hxl, hx, hs, O⟩ := hrel
        by_cases hlt : i < len
        · have hil : i < xs.length := by rw [hxl.out]; exact hlt
          obtain ⟨xa, xn, xc, hhd⟩ : ∃ xa xn xc, hd (xs.getD i zl) = .slice xa xn xc := ⟨_, _, _, rfl⟩
          have g1 : wr.cell? ⟨g, i, none⟩ = some (.slice xa xn xc) := by rw [← hhd]; exact O.out.cell hil
          obtain ⟨gx, hgx⟩ : ∃ g, g = wr.heap.size := ⟨_, rfl⟩
          obtain ⟨W1, hW1⟩ : ∃ W, W = wr.alloc (.cells #[.int .i64 i] 3) := ⟨_, rfl⟩
          have kx : W1.heap[gx]? = some (.cells #[.int .i64 i] 3) := by rw [hW1, hgx]; exact new_at _ _
          have bx : Below wr.heap.size wr W1 := by rw [hW1]; exact box_below _ _
          have O1 := O.out.later bx
          have hne : (hd (xs.getD i zl)).ownBlock ≠ some gx := by
            intro e
            have := (own_lt (O.out.r i hil).2.1 gx e).2
            omega
          have hcall := sort_own i gx w.heap.size (hd (xs.getD i zl)) (xs.getD i zl).fs W1 (O1.r i hil).2.1 (cell_of kx 0 _ rfl) hne (by rw [(hx.out i hlt).length_eq]; exact hbl.out i hlt)
          replace hcall := hid hcall
          have hfin : Hid (∀ W' fs', fs'.Perm (xs.getD i zl).fs → fs'.Pairwise (fun x y => lF i y x = false) → eFi.Own W' w.heap.size (hd (xs.getD i zl)) fs' → W1.grownBy W' (hd (xs.getD i zl)).ownBlock → ∃ xs', xs'.length = len ∧ (∀ k, k < len → ((xs'.getD k zl).fs).Perm (M.getD k [] ++ cm k co)) ∧ (∀ k, k < i + 1 → ((xs'.getD k zl).fs).Pairwise (fun x y => lF k y x = false)) ∧ Ou w W' g xs') := by
            intro W' fs' hp hpw ho hgr
            refine ⟨_, ?_, ?_, ?_, sorted_ou O1 hil hgr ho hp⟩
            · rw [List.length_set]; exact hxl.out
            · intro k hk
              by_cases e : i = k
              · subst e; rw [Go.Proofs.Ytkpihibeohjfnaa.Ou.getD_set_eq hil]; exact hp.trans (hx.out i hk)
              · rw [Go.Proofs.Ytkpihibeohjfnaa.Ou.getD_set_ne e]; exact hx.out k hk
            · intro k hk
              by_cases e : i = k
              · subst e; rw [Go.Proofs.Ytkpihibeohjfnaa.Ou.getD_set_eq hil]; exact hpw
              · rw [Go.Proofs.Ytkpihibeohjfnaa.Ou.getD_set_ne e]; exact hs.out k (by omega)
          rw [hhd] at hcall hfin
          have ik0 : (i : Int) < (len : Int) := by omega
          have ok0 : (0 : Int) ≤ (i : Int) := by omega
          replace hgx := hid hgx
          replace hW1 := hid hW1
          replace hhd := hid hhd
          clear kx bx O1 O hx hxl hs hne hil
          go_wp2_with (first | (go_at_call 60; rw [← hW1.out, ← hgx.out]; refine hcall.out.mono ?_; rintro e w8 ⟨rfl, fs', p1, p2, p3, p4⟩))
          obtain ⟨xs', q1, q2, q3, q4⟩ := hfin.out w8 fs' p1 p2 p3 p4
          clear p1 p2 p3 p4 hfin hcall
          replace q1 := hid q1
          replace q2 := hid q2
          replace q3 := hid q3
          replace q4 := hid q4
          go_roundw
          case rel => exact ⟨i + 1, xs', by go_num, by omega, q1, q2, q3, q4⟩
          case measure => simp [intOf]; omega
        · have hie : i = len := by omega
          subst hie
          go_wp2_with fail
          go_ret
          exact PutP.yes _ xs (by rw [hlen.out]; exact hin'.out) O.out (by rw [hlen.out]; exact hxl.out) (by rw [hlen.out]; exact fun k hk => ⟨hx.out k hk, hs.out k hk⟩)
end Go.Proofs.Ytkpihibeohjfnaa.Pi
