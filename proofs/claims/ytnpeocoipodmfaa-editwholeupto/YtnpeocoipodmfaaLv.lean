/- Levels: slices of slices of files; levels as an edit, in plain words. -/
import Derived.Test.YtnpeocoipodmfaaOe
import Derived.Test.YtnpeocoipodmfaaLe
namespace Go.Proofs.Ytnpeocoipodmfaa.Lv
open Go.ChangeShapes Go.WideShapes Go.ChangeAt Go.RowKit Go.Joins
open Go.Proofs.Ytnpeocoipodmfaa.Gr
open Go.Proofs.Ytnpeocoipodmfaa.Ev
open Go.Proofs.Ytnpeocoipodmfaa.Oe
set_option linter.unusedVariables false
set_option linter.unusedSimpArgs false

/-- A level's slice, and its files. -/
structure Lf where
  a : Option Addr
  n : Nat
  c : Nat
  fs : List Fi
def zl : Lf := ⟨none, 0, 0, []⟩
def eLv (W : World) : El Lf where
  st := 45
  et := 48
  k := 1
  by_ := 24
  cs := fun x => [.slice x.a x.n x.c]
  z := zl
  zv := .slice none 0 0
  len := fun _ => rfl
  one := by intro x u h; simp at h; rcases h with rfl; rfl
  und := Try.underlying45
  info := by kernel_rfl
  zc := rfl
  pos := by decide
  ok := fun x => eFi.Sl W x.a x.n x.c x.fs
/-- Levels that can be read. -/
def Lvs (W : World) (a : Option Addr) (len cap : Nat) (L : List (List Fi)) : Prop := ∃ xs, (eLv W).Sl W a len cap xs ∧ L = xs.map Lf.fs
theorem Lvs.later {w w' : World} {a : Option Addr} {len cap : Nat} {L : List (List Fi)} (h : Lvs w a len cap L) (b : Below w.heap.size w w') : Lvs w' a len cap L := by
  obtain ⟨xs, h, e⟩ := h
  exact ⟨xs, ⟨h.n, h.c, h.nil, fun x hx => (h.ok x hx).later b, fun bb o p hp hl => ⟨(h.cells bb o p hp hl).1, fun i hi => El.At.later (E := eLv w) ((h.cells bb o p hp hl).2 i hi) b⟩⟩, e⟩
theorem Lvs.len_eq {w : World} {a : Option Addr} {len cap : Nat} {L : List (List Fi)} (h : Lvs w a len cap L) : L.length = len := by
  obtain ⟨xs, h, rfl⟩ := h
  rw [List.length_map, h.n]
theorem Lvs.cap_le {w : World} {a : Option Addr} {len cap : Nat} {L : List (List Fi)} (h : Lvs w a len cap L) : len ≤ cap := by
  obtain ⟨xs, h, _⟩ := h
  exact h.c
/-- The i-th level. -/
theorem Lvs.at {w : World} {a : Option Addr} {len cap : Nat} {L : List (List Fi)} (h : Lvs w a len cap L) (i : Nat) (hi : i < len) : ∃ b o la ln lc, a = some ⟨b, o, none⟩ ∧ w.cell? ⟨b, o + i, none⟩ = some (.slice la ln lc) ∧ eFi.Sl w la ln lc (L.getD i []) ∧ ln = (L.getD i []).length := by
  obtain ⟨xs, h, rfl⟩ := h
  cases a with
  | none => have := (h.nil rfl).1; omega
  | some ad =>
    obtain ⟨b, o, p⟩ := ad
    obtain ⟨rfl, hat⟩ := h.cells b o p rfl (by omega)
    have h1 := hat i hi 0 _ rfl
    have hm : xs.getD i zl ∈ xs := El.get_mem (E := eLv w) (by rw [h.n]; exact hi)
    have hok := h.ok _ hm
    have he : (xs.map Lf.fs).getD i [] = (xs.getD i zl).fs := by
      rw [List.getD_eq_getElem?_getD, List.getD_eq_getElem?_getD, List.getElem?_map]
      cases xs[i]? <;> rfl
    refine ⟨b, o, (xs.getD i zl).a, (xs.getD i zl).n, (xs.getD i zl).c, rfl, ?_, ?_, ?_⟩
    · simpa [eLv] using h1
    · rw [he]; exact hok
    · rw [he]; exact hok.n.symm
def wX (x : Lf) : Nat := wsum wF x.fs + 1
def wL (L : List (List Fi)) : Nat := wsum (fun fs => wsum wF fs + 1) L
theorem wL_map : ∀ xs : List Lf, wL (xs.map Lf.fs) = wsum wX xs
  | [] => rfl
  | x :: l => by simp only [List.map_cons]; show wsum wF x.fs + 1 + wL (l.map Lf.fs) = wX x + wsum wX l; rw [wL_map l]; rfl
section
variable {H : Type} {enc : TypeId × Value → H} {W : World} {sp : Nat → Bool}
theorem c48 : Try.prog.cellsOf 48 = 1 := by kernel_rfl
theorem level_parts {n : Nat} {cs : List Value} {x : DataW H × List MemPlace} (hlen : cs.length = 1) (ht : DataW.trod enc Try.prog W 0 sp true n 48 cs = some x) : ∃ e : Lf, (eLv W).ok e ∧ cs = (eLv W).cs e ∧ wX e ≤ Rows.uptoBulk x.1 := by
  match cs, hlen with
  | [d], _ =>
    obtain ⟨a, len, cap, rfl⟩ : ∃ a len cap, d = .slice a len cap := by
      rcases Deep.open_slice Try.underlying48 ht with ⟨hcs, _⟩ | ⟨ad, l, c, m, n, D, Pl', hcs, _⟩
      · simp at hcs; exact ⟨_, _, _, hcs⟩
      · simp at hcs; exact ⟨_, _, _, hcs⟩
    obtain ⟨xs, s1, b1⟩ := open_sl eFi wF c51 (fun n cs x => file_parts) ht
    exact ⟨⟨a, len, cap, xs⟩, s1, rfl, b1⟩
theorem open_levels {fuel : Nat} {a : Option Addr} {len cap : Nat} {x : DataW H × List MemPlace} (hf : DataW.trod enc Try.prog W 0 sp true fuel 45 [.slice a len cap] = some x) : ∃ L, Lvs W a len cap L ∧ wL L ≤ Rows.uptoBulk x.1 := by
  obtain ⟨xs, h1, h2⟩ := open_sl (eLv W) wX c48 (fun n cs x => level_parts) hf
  exact ⟨_, ⟨xs, h1, rfl⟩, by rw [wL_map]; omega⟩
theorem c47 : Try.prog.cellsOf 47 = 3 := by kernel_rfl
set_option maxRecDepth 100000 in
theorem open_numbers {n : Nat} {r : Reach} {b0 : Nat} {v : Value} {x : DataW H × List MemPlace}
    (hv : Value.okWide Try.prog W r b0 47 v) (ht : DataW.trod enc Try.prog W 0 sp true n 47 v.cells.toList = some x) : ∃ l n q, v = .agg #[.int .i64 l, .int .i64 n, .int .u64 q] ∧ bd l ∧ bd n ∧ bu q := by
  obtain ⟨cs, rfl, hsz⟩ := okWide_struct Try.underlying47 hv
  rw [c47] at hsz
  have ht' : DataW.trod enc Try.prog W 0 sp true n 47 cs.toList = some x := by simpa [Value.cells] using ht
  obtain ⟨y0, y1, y2, m, hx, _, h0, h1, h2⟩ := Deep.trod_struct3 Try.underlying47 ht'
  obtain ⟨l⟩ := cs
  have hl : l.length = 3 := by simpa using hsz
  match l, hl with
  | [d0, d1, d2], _ =>
    simp only [c3, c22, List.drop_zero, List.drop_succ_cons, List.take_succ_cons, List.take_zero] at h0 h1 h2
    obtain ⟨k0, e0, f0, w0⟩ := DataW.trod_int Try.underlying3 h0
    obtain ⟨k1, e1, f1, w1⟩ := DataW.trod_int Try.underlying3 h1
    obtain ⟨k2, e2, f2, w2⟩ := DataW.trod_int Try.underlying22 h2
    simp only [List.cons.injEq, and_true] at e0 e1 e2
    subst e0 e1 e2
    exact ⟨k0, k1, k2, rfl, i64_bd w0, i64_bd w1, u64_bd w2⟩
end
/-! ### Levels as an edit -/
def wh : Nat → List (List Fi) → List Ad
  | _, [] => []
  | k, fs :: r => fs.map (fun f => ⟨(k : Int), f⟩) ++ wh (k + 1) r
theorem wh_append : ∀ (L M : List (List Fi)) (k : Nat), wh k (L ++ M) = wh k L ++ wh (k + L.length) M
  | [], M, k => by simp [wh]
  | x :: L, M, k => by simp [wh, wh_append L M (k + 1), Nat.add_assoc, Nat.add_comm 1]
theorem wh_len : ∀ (L : List (List Fi)) (k : Nat), (wh k L).length ≤ wL L
  | [], k => by simp [wh, wL, wsum]
  | x :: L, k => by
    have := wh_len L (k + 1)
    have h2 := wsum_len wF (fun x => by unfold wF; omega) x
    simp only [wh, List.length_append, List.length_map]
    show _ ≤ wsum wF x + 1 + wL L
    omega
theorem take_succ {L : List (List Fi)} {i : Nat} (h : i < L.length) : L.take (i + 1) = L.take i ++ [L.getD i []] := by
  rw [List.take_succ_eq_append_getElem h, List.getD_eq_getElem?_getD, List.getElem?_eq_getElem h]
  rfl
theorem wh_succ {L : List (List Fi)} {i : Nat} (h : i < L.length) : wh 0 (L.take (i + 1)) = wh 0 (L.take i) ++ (L.getD i []).map (fun f => ⟨(i : Int), f⟩) := by
  rw [take_succ h, wh_append]
  simp [wh, List.length_take, Nat.min_eq_left (Nat.le_of_lt h)]
theorem wL_append (L M : List (List Fi)) : wL (L ++ M) = wL L + wL M := wsum_append _ L M
theorem wL_take {L : List (List Fi)} {i : Nat} : wL (L.take i) ≤ wL L := by
  have : wL L = wL (L.take i) + wL (L.drop i) := by rw [← wL_append, List.take_append_drop]
  omega
theorem wL_at {L : List (List Fi)} {i : Nat} (h : i < L.length) : wL (L.take i) + ((L.getD i []).length + 1) ≤ wL L := by
  have h1 : wL (L.take (i + 1)) ≤ wL L := wL_take
  rw [take_succ h, wL_append] at h1
  have h2 := wsum_len wF (fun x => by unfold wF; omega) (L.getD i [])
  have h3 : wL [L.getD i []] = wsum wF (L.getD i []) + 1 + 0 := rfl
  omega
theorem wL_len : ∀ L : List (List Fi), L.length ≤ wL L := fun L => wsum_len _ (fun _ => by omega) L
end Go.Proofs.Ytnpeocoipodmfaa.Lv
