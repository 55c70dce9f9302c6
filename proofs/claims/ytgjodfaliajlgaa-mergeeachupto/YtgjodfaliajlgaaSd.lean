/- ikey.Sorted by its contract: a new row of the entries in their order, those that are alike as they stood. -/
import Derived.Test.YtgjodfaliajlgaaSs
import Derived.Laws.CopyOwn
namespace Go.Proofs.Ytgjodfaliajlgaa.Sd
open Go.ChangeShapes Go.WideShapes Go.ChangeAt Go.RowKit
open Go.Proofs.Ytgjodfaliajlgaa.Gr hiding hid addr_add
open Go.Proofs.Ytgjodfaliajlgaa.Ik
open Go.Proofs.Ytgjodfaliajlgaa.Ee
open Go.Proofs.Ytgjodfaliajlgaa.Sb
open Go.Proofs.Ytgjodfaliajlgaa.Ew
set_option linter.unusedVariables false
set_option linter.unusedSimpArgs false

/-- Entries as elements of rows. -/
def eE : El E where
  st := 39
  et := 43
  k := 4
  by_ := 48
  cs := fun x => [.string x.k, .int .u64 x.s, .int .i64 x.c, .string x.v]
  z := ze
  zv := .agg #[.string ⟨#[]⟩, .int .u64 0, .int .i64 0, .string ⟨#[]⟩]
  len := fun _ => rfl
  one := by intro x u h; simp at h; rcases h with rfl | rfl | rfl | rfl <;> rfl
  und := Try.underlying39
  info := by kernel_rfl
  zc := rfl
  pos := by decide
  ok := E.ok
theorem at4_of {w : World} {b o : Nat} {x : E} (h : eE.At w b o x) : At4 w b o x := ⟨h 0 _ rfl, h 1 _ rfl, h 2 _ rfl, h 3 _ rfl⟩
theorem at4_to {w : World} {b o : Nat} {x : E} (h : At4 w b o x) : eE.At w b o x := by
  intro j u hu
  obtain ⟨h0, h1, h2, h3⟩ := h
  match j, hu with
  | 0, hu => simp [eE] at hu; subst hu; exact h0
  | 1, hu => simp [eE] at hu; subst hu; exact h1
  | 2, hu => simp [eE] at hu; subst hu; exact h2
  | 3, hu => simp [eE] at hu; subst hu; exact h3
  | j + 4, hu => simp [eE] at hu
theorem sl_of {w : World} {a : Option Addr} {n c : Nat} {xs : List E} (h : Ents w a n c xs) : eE.Sl w a n c xs :=
  ⟨h.1, h.2.1, h.2.2.1, h.2.2.2.1, fun b o p hp hl => ⟨(h.2.2.2.2 b o p hp hl).1, fun i hi => at4_to ((h.2.2.2.2 b o p hp hl).2 i hi)⟩⟩
theorem ents_of {w : World} {a : Option Addr} {n c : Nat} {xs : List E} (h : eE.Sl w a n c xs) : Ents w a n c xs :=
  ⟨h.n, h.c, h.nil, h.ok, fun b o p hp hl => ⟨(h.cells b o p hp hl).1, fun i hi => at4_of ((h.cells b o p hp hl).2 i hi)⟩⟩
/-- A row of just these cells. -/
theorem row_of {w : World} {g : Nat} {xs : List E} (h : w.heap[g]? = some (.cells (eE.cl xs).toArray 43 (0, 0))) : ERow w g xs.length xs := by
  refine ⟨_, h, ?_, Nat.le_refl _, fun i hi => ?_⟩
  · rw [List.size_toArray, eE.cl_len]; rfl
  · have k0 := eE.cl_get xs i hi 0 (by decide)
    have k1 := eE.cl_get xs i hi 1 (by decide)
    have k2 := eE.cl_get xs i hi 2 (by decide)
    have k3 := eE.cl_get xs i hi 3 (by decide)
    exact ⟨by simpa [eE] using k0, by simpa [eE] using k1, by simpa [eE] using k2, by simpa [eE] using k3⟩
theorem row_sl {w : World} {g n c : Nat} {xs : List E} (h : ERow w g c xs) (hn : xs.length = n) (hok : ∀ x ∈ xs, x.ok) : Ents w (some ⟨g, 0, none⟩) n c xs :=
  ⟨hn, by have := h.le; omega, fun e => (by cases e), hok, fun b o p hp hl => by
    injection hp with hp; injection hp with h1 h2 h3; subst h1 h2 h3
    exact ⟨rfl, fun i hi => by rw [Nat.zero_add]; exact h.cell i (by omega)⟩⟩
/-- A row that has room for no more is the call's own. -/
theorem cl_ext {xs : List E} {l : List Value} (hl : l.length = xs.length * 4) (h : ∀ i, i < xs.length → l[i * 4]? = some (.string (xs.getD i ze).k) ∧ l[i * 4 + 1]? = some (.int .u64 (xs.getD i ze).s) ∧ l[i * 4 + 2]? = some (.int .i64 (xs.getD i ze).c) ∧ l[i * 4 + 3]? = some (.string (xs.getD i ze).v)) : l = eE.cl xs := by
  apply List.ext_getElem?
  intro q
  by_cases hq : q < xs.length * 4
  · have h1 : q / 4 < xs.length := by omega
    obtain ⟨k0, k1, k2, k3⟩ := h (q / 4) h1
    have h2 : q = q / 4 * 4 + q % 4 := by omega
    have h3 : q % 4 < 4 := by omega
    have kk := eE.cl_get xs (q / 4) h1 (q % 4) h3
    rw [show eE.k = 4 from rfl, ← h2] at kk
    rw [kk]
    have h4 : q % 4 = 0 ∨ q % 4 = 1 ∨ q % 4 = 2 ∨ q % 4 = 3 := by omega
    rcases h4 with e | e | e | e
    · rw [e]; rw [show q = q / 4 * 4 by omega, show q / 4 * 4 / 4 = q / 4 by omega, k0]; rfl
    · rw [e]; rw [show q = q / 4 * 4 + 1 by omega, show (q / 4 * 4 + 1) / 4 = q / 4 by omega, k1]; rfl
    · rw [e]; rw [show q = q / 4 * 4 + 2 by omega, show (q / 4 * 4 + 2) / 4 = q / 4 by omega, k2]; rfl
    · rw [e]; rw [show q = q / 4 * 4 + 3 by omega, show (q / 4 * 4 + 3) / 4 = q / 4 by omega, k3]; rfl
  · rw [List.getElem?_eq_none (by omega), List.getElem?_eq_none (by rw [eE.cl_len, show eE.k = 4 from rfl]; omega)]
theorem row_own {w : World} {g c base : Nat} {xs : List E} (h : ERow w g c xs) (hb : base ≤ g) (hc : c ≤ maxLen) : eE.Own w base (.slice (some ⟨g, 0, none⟩) xs.length c) xs := by
  obtain ⟨cur, h1, h2, h3, h4⟩ := h
  refine ⟨by rw [eE.cl_len], .inr ⟨g, c, cur, rfl, hb, h1, h3, hc, h2, ?_⟩⟩
  have hlc : cur.toList.length = c * 4 := by rw [← h2]; rfl
  refine cl_ext (by
    show (cur.toList.take (xs.length * 4)).length = _
    rw [List.length_take, hlc]
    omega) (fun i hi => ?_)
  obtain ⟨k0, k1, k2, k3⟩ := h4 i hi
  rw [show eE.k = 4 from rfl]
  refine ⟨?_, ?_, ?_, ?_⟩ <;> (rw [List.getElem?_take, if_pos (by omega)]; simpa)
theorem below_grown {n : Nat} {w0 w w' : World} {row : Option Nat} (h : Below n w0 w) (hn : n ≤ w.heap.size) (g : w.grownBy w' row) (hr : ∀ j, row = some j → n ≤ j) : Below n w0 w' :=
  ⟨g.os.trans h.os, g.tape.trans h.tape, g.output.trans h.output, Nat.le_trans h.size g.size, fun j hj => (g.block j (by omega) (fun e => by have := hr j e.symm; omega)).trans (h.block j hj)⟩
/-- copy of a whole slice over a row. -/
theorem run_copy_k {P : Program} {w : World} (dT sT ty elem : TypeId) (hu : P.underlying dT = some (.slice elem)) (k : Nat) (hsz : (P.info? elem).map (·.size) = some k)
    (g n dCap : Nat) (sp : Option Addr) (sCap : Nat) (cur : Array Value) (t : TypeId) (hg : w.heap[g]? = some (.cells cur t (0, 0))) (cs : List Value) (hn : cs.length = n * k) (hcur : cur.size = n * k)
    (hsrc : sp = none → n = 0) (hsrc2 : ∀ ad, sp = some ad → ∀ j v, cs[j]? = some v → w.cell? (ad.add j) = some v) (hnil : sp = none → sCap = 0) (h1 : ∀ v ∈ cs, v.oneCell' = true) :
    (Builtin.copy_ #[dT, sT] ty #[.slice (some ⟨g, 0, none⟩) n dCap, .slice sp n sCap]).run P w = .ok (.int .i64 n) (w.setRow g cs.toArray) := by
  cases hq : P.info? elem with
  | none => simp [hq] at hsz
  | some i =>
    have hi : i.size = k := by simpa [hq] using hsz
    cases sp with
    | none =>
      have h0 := hsrc rfl
      have hc0 := hnil rfl
      subst h0 hc0
      have e1 : cs = [] := List.eq_nil_of_length_eq_zero (by omega)
      have e2 : cur = #[] := Array.eq_empty_of_size_eq_zero (by omega)
      subst e1 e2
      have hr := run_copy_nil P w dT sT ty elem ⟨g, 0, none⟩ 0 dCap hu (by simp [hq])
      rw [hr, setRow_self w g #[] t (0, 0) hg]
      rfl
    | some ad =>
      have hl := run_loadCells_list (P := P) w ad cs (hsrc2 ad rfl)
      have hst := run_storeCells_at P g 0 t cs 0 cur w hg (by omega) h1
      have e3 : (cur.toList.take (0 + 0) ++ cs ++ cur.toList.drop (0 + 0 + cs.length)).toArray = cs.toArray := by
        rw [List.drop_eq_nil_of_le (by simp; omega)]
        simp
      rw [e3] at hst
      simp [Builtin.copy_, run_underlying hu, Builtin.lenOf, Builtin.firstCells, sizeOf, typeInfo, hq, hi, ← hn, hl, hst, goInt]
def srtE (xs : List E) : List E := srt le xs.length xs
theorem srtE_is {ys xs : List E} (h : Srt le ys) (he : Eqf le ys xs) : ys = srtE xs := srt_is le_tot le_trn h he _ (Nat.le_refl _)
theorem srtE_len (xs : List E) : (srtE xs).length = xs.length := by
  have len : ∀ (k : Nat) (l : List E), l.length ≤ k → (srt le k l).length = l.length := by
    have lm : ∀ (xs ys : List E), (mrg le xs ys).length = xs.length + ys.length := by
      intro xs
      induction xs with
      | nil => intro ys; rw [mrg_nil]; simp
      | cons x xs ih =>
        intro ys
        induction ys with
        | nil => rw [mrg_right]; simp
        | cons y ys ihy =>
          rw [mrg_cons]
          by_cases hxy : le x y = true
          · rw [if_pos hxy, List.length_cons, ih]; simp; omega
          · rw [if_neg hxy, List.length_cons, ihy]; simp; omega
    intro k
    induction k with
    | zero => intro l _; rfl
    | succ k ih =>
      intro l hl
      unfold srt
      by_cases h2 : l.length < 2
      · rw [if_pos h2]
      · rw [if_neg h2, lm, ih _ (by rw [List.length_take]; omega), ih _ (by rw [List.length_drop]; omega), List.length_take, List.length_drop]; omega
  exact len xs.length xs (Nat.le_refl _)
theorem srtE_spec (xs : List E) : Srt le (srtE xs) ∧ Eqf le (srtE xs) xs := by
  have h := srt_spec le le_tot le_trn xs.length xs (Nat.le_refl _)
  exact ⟨h.1, srtE_len xs, h.2⟩
theorem srtE_ok {xs : List E} (h : ∀ x ∈ xs, x.ok) : ∀ x ∈ srtE xs, x.ok := fun x hx => h x ((srtE_spec xs).2.mem le_tot x hx)

set_option maxHeartbeats 1000000 in
set_option maxRecDepth 20000 in
theorem sorted_any (a : Option Addr) (n c : Nat) (xs : List E) (w : World) (H : Ents w a n c xs) (hbig : n * 48 ≤ 140737488355328) :
    Calls Try.prog 40 #[.slice a n c] w fun e w' => ∃ g, e = .returned (.slice (some ⟨g, 0, none⟩) n n) ∧ w.heap.size ≤ g ∧ ERow w' g n (srtE xs) ∧ Below w.heap.size w w' := by
  have hln := hid H.1
  have hnil := H.2.2.1
  have HL : Hid (∀ W, Below w.heap.size w W → ∀ ad, a = some ad → ∀ j v, (eE.cl xs)[j]? = some v → W.cell? (ad.add j) = some v) := fun W b ad ha j v hv => by
    subst ha
    exact (sl_of (H.later b)).flat j v hv
  replace hnil := hid hnil
  clear H
  obtain ⟨i0, hi, hz0, hz1, hz2⟩ := info_parts eE.info
  replace hi : Try.prog.info? 43 = some i0 := hi
  have hz1' : i0.size = 4 := hz1
  have hz0' : i0.zero = some (.agg #[.string ⟨#[]⟩, .int .u64 0, .int .i64 0, .string ⟨#[]⟩]) := hz0
  have hsz : (Try.prog.info? 43).map (·.size) = some 4 := by rw [hi]; show some i0.size = _; rw [hz1']
  have hz2' : i0.bytes = 48 := hz2
  replace hsz := hid hsz
  go_enter Try.func40, Try.ntmps40
  go_wp2_with (first
        | (at_make; refine wpList_make_full _ rfl _ _ 39 rfl w.heap.size 43 i0 (.agg #[.string ⟨#[]⟩, .int .u64 0, .int .i64 0, .string ⟨#[]⟩]) 4 Try.underlying39 hi hz0' hz1' _ _ _ _ n rfl rfl rfl rfl (by rw [hz2']; omega) (by unfold maxLen; omega) (Nat.le_refl _) ?_; intro w1 hrow hg1))
  obtain ⟨g, hg⟩ : ∃ g, g = w.heap.size := ⟨_, rfl⟩
  rw [← hg]
  have bw1 : Below w.heap.size w w1 := below_grown (Below.refl _ _) (Nat.le_refl _) hg1 (fun k hk => by cases hk)
  obtain ⟨cur, hcur, hsize⟩ : ∃ cur : Array Value, w1.heap[g]? = some (.cells cur 43 (0, 0)) ∧ cur.size = n * 4 := by
    rcases hrow.2 with ⟨h1, _⟩ | ⟨g', c', cur, h1, h2, h3, h4, h5, h6, h7⟩
    · cases h1
    · injection h1 with h1 h8 h9
      injection h1 with h1
      injection h1 with h1
      rw [hg, h1]
      exact ⟨cur, h3, by rw [h6, ← h9]⟩
  have hsrc := HL.out w1 bw1
  have hW2 : Hid (ERow (w1.setRow g (eE.cl xs).toArray) g n xs) := by
    have h2 : (w1.setRow g (eE.cl xs).toArray).heap[g]? = some (.cells (eE.cl xs).toArray 43 (0, 0)) := setRow_heap w1 g cur _ _ _ hcur
    have := row_of h2
    rw [hln.out] at this
    exact this
  have bw2 : Hid (Below w.heap.size w (w1.setRow g (eE.cl xs).toArray)) := below_setRow bw1 (by omega) _
  have hgw : Hid (w.heap.size ≤ g) := by show _ ≤ _; omega
  have hcl : Hid ((eE.cl xs).length = n * 4) := by show _ = _; rw [eE.cl_len, hln.out]; rfl
  have hone := eE.cl_one xs
  obtain ⟨cs, hcs⟩ : ∃ cs, cs = eE.cl xs := ⟨_, rfl⟩
  rw [← hcs] at hsrc hW2 bw2 hcl hone
  replace hg := hid hg
  replace hcur := hid hcur
  replace hsize := hid hsize
  replace hsrc := hid hsrc
  replace hone := hid hone
  replace hcs := hid hcs
  clear hrow hg1 bw1
  have hrun := run_copy_k (P := Try.prog) (w := w1) 39 39 3 43 Try.underlying39 4 hsz.out g n n a c cur 43 hcur.out cs hcl.out hsize.out (fun h => (hnil.out h).1) hsrc.out (fun h => (hnil.out h).2) hone.out
  obtain ⟨W2, hW2e⟩ : ∃ W, W = w1.setRow g cs.toArray := ⟨_, rfl⟩
  rw [← hW2e] at hW2 bw2 hrun
  have HS := hid (Ss.sortstable_any g n n xs W2 hW2.out hln.out (by omega))
  unfold cf at HS
  replace hW2e := hid hW2e
  rw [hrun]
  clear hrun
  go_wp2_with fail
  refine HS.out.mono ?_
  rintro e w3 ⟨rfl, ys, R1, s1, e1, F1⟩
  have hys := srtE_is s1 e1
  subst hys
  have b3 : Hid (Below w.heap.size w w3) := ⟨F1.os.trans bw2.out.os, F1.tape.trans bw2.out.tape, F1.output.trans bw2.out.output, Nat.le_trans bw2.out.size F1.size, fun j hj => (F1.block j (Nat.lt_of_lt_of_le hj bw2.out.size) (by have := hgw.out; omega)).trans (bw2.out.block j hj)⟩
  replace R1 := hid R1
  clear HS F1 s1 e1
  go_wp2_with fail
  go_ret
  exact ⟨g, rfl, hgw.out, R1.out, b3.out⟩
end Go.Proofs.Ytgjodfaliajlgaa.Sd
