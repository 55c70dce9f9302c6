/- Levels: slices of slices of files; levels as an edit, in plain words. -/
import Derived.Test.YtcpnmpepcpcahaaGreatDoorOe
namespace Go.Proofs.YtcpnmpepcpcahaaGreatDoor.Lv
open Go.ChangeShapes Go.WideShapes Go.ChangeAt Go.RowKit Go.Joins
open Go.Proofs.YtcpnmpepcpcahaaGreatDoor.Gr
open Go.Proofs.YtcpnmpepcpcahaaGreatDoor.Ev
open Go.Proofs.YtcpnmpepcpcahaaGreatDoor.Oe
set_option linter.unusedVariables false
set_option linter.unusedSimpArgs false

/-- A level's slice, and its files. -/
structure Lf where
  a : Option Addr
  n : Nat
  c : Nat
  fs : List Fi
def zl : Lf := ⟨none, 0, 0, []⟩
def eLv (W : World) : El Lf where
  st := 23
  et := 73
  k := 1
  by_ := 24
  cs := fun x => [.slice x.a x.n x.c]
  z := zl
  zv := .slice none 0 0
  len := fun _ => rfl
  one := by intro x u h; simp at h; rcases h with rfl; rfl
  und := Tryz.underlying23
  info := by kernel_rfl
  zc := rfl
  pos := by decide
  ok := fun x => eFi.Sl W x.a x.n x.c x.fs
/-- Levels that can be read. -/
def Lvs (W : World) (a : Option Addr) (len cap : Nat) (L : List (List Fi)) : Prop := ∃ xs, (eLv W).Sl W a len cap xs ∧ L = xs.map Lf.fs
theorem Lvs.later {w w' : World} {a : Option Addr} {len cap : Nat} {L : List (List Fi)} (h : Lvs w a len cap L) (b : Below w.heap.size w w') : Lvs w' a len cap L := by
  obtain ⟨xs, h, e⟩ := h
  exact ⟨xs, ⟨h.n, h.c, h.nil, fun x hx => (h.ok x hx).later b, fun bb o p hp hl => ⟨(h.cells bb o p hp hl).1, fun i hi => El.At.later (E := eLv w) ((h.cells bb o p hp hl).2 i hi) b⟩⟩, e⟩
theorem Lvs.len_eq {w : World} {a : Option Addr} {len cap : Nat} {L : List (List Fi)} (h : Lvs w a len cap L) : L.length = len := by
  obtain ⟨xs, h, rfl⟩ := h
  rw [List.length_map, h.n]
theorem Lvs.cap_le {w : World} {a : Option Addr} {len cap : Nat} {L : List (List Fi)} (h : Lvs w a len cap L) : len ≤ cap := by
  obtain ⟨xs, h, _⟩ := h
  exact h.c
/-- The i-th level. -/
theorem Lvs.at {w : World} {a : Option Addr} {len cap : Nat} {L : List (List Fi)} (h : Lvs w a len cap L) (i : Nat) (hi : i < len) : ∃ b o la ln lc, a = some ⟨b, o, none⟩ ∧ w.cell? ⟨b, o + i, none⟩ = some (.slice la ln lc) ∧ eFi.Sl w la ln lc (L.getD i []) ∧ ln = (L.getD i []).length := by
  obtain ⟨xs, h, rfl⟩ := h
  cases a with
  | none => have := (h.nil rfl).1; omega
  | some ad =>
    obtain ⟨b, o, p⟩ := ad
    obtain ⟨rfl, hat⟩ := h.cells b o p rfl (by omega)
    have h1 := hat i hi 0 _ rfl
    have hm : xs.getD i zl ∈ xs := El.get_mem (E := eLv w) (by rw [h.n]; exact hi)
    have hok := h.ok _ hm
    have he : (xs.map Lf.fs).getD i [] = (xs.getD i zl).fs := by
      rw [List.getD_eq_getElem?_getD, List.getD_eq_getElem?_getD, List.getElem?_map]
      cases xs[i]? <;> rfl
    refine ⟨b, o, (xs.getD i zl).a, (xs.getD i zl).n, (xs.getD i zl).c, rfl, ?_, ?_, ?_⟩
    · simpa [eLv] using h1
    · rw [he]; exact hok
    · rw [he]; exact hok.n.symm
def wX (x : Lf) : Nat := wsum wF x.fs + 1
def wL (L : List (List Fi)) : Nat := wsum (fun fs => wsum wF fs + 1) L
theorem wL_map : ∀ xs : List Lf, wL (xs.map Lf.fs) = wsum wX xs
  | [] => rfl
  | x :: l => by simp only [List.map_cons]; show wsum wF x.fs + 1 + wL (l.map Lf.fs) = wX x + wsum wX l; rw [wL_map l]; rfl
section
variable {H : Type} {enc : TypeId × Value → H} {W : World} {sp : Nat → Bool}
theorem c48 : Tryz.prog.cellsOf 73 = 1 := by kernel_rfl
theorem level_parts {n : Nat} {cs : List Value} {x : DataW H × List MemPlace} (hlen : cs.length = 1) (ht : DataW.trod enc Tryz.prog W 0 sp true n 73 cs = some x) : ∃ e : Lf, (eLv W).ok e ∧ cs = (eLv W).cs e ∧ wX e ≤ Rows.uptoBulk x.1 := by
  match cs, hlen with
  | [d], _ =>
    obtain ⟨a, len, cap, rfl⟩ : ∃ a len cap, d = .slice a len cap := by
      rcases Deep.open_slice Tryz.underlying73 ht with ⟨hcs, _⟩ | ⟨ad, l, c, m, n, D, Pl', hcs, _⟩
      · simp at hcs; exact ⟨_, _, _, hcs⟩
      · simp at hcs; exact ⟨_, _, _, hcs⟩
    obtain ⟨xs, s1, b1⟩ := open_sl eFi wF c51 (fun n cs x => file_parts) ht
    exact ⟨⟨a, len, cap, xs⟩, s1, rfl, b1⟩
theorem open_levels {fuel : Nat} {a : Option Addr} {len cap : Nat} {x : DataW H × List MemPlace} (hf : DataW.trod enc Tryz.prog W 0 sp true fuel 23 [.slice a len cap] = some x) : ∃ L, Lvs W a len cap L ∧ wL L ≤ Rows.uptoBulk x.1 := by
  obtain ⟨xs, h1, h2⟩ := open_sl (eLv W) wX c48 (fun n cs x => level_parts) hf
  exact ⟨_, ⟨xs, h1, rfl⟩, by rw [wL_map]; omega⟩
end
/-! ### How many -/
theorem take_succ {L : List (List Fi)} {i : Nat} (h : i < L.length) : L.take (i + 1) = L.take i ++ [L.getD i []] := by
  rw [List.take_succ_eq_append_getElem h, List.getD_eq_getElem?_getD, List.getElem?_eq_getElem h]
  rfl
theorem wL_append (L M : List (List Fi)) : wL (L ++ M) = wL L + wL M := wsum_append _ L M
theorem wL_take {L : List (List Fi)} {i : Nat} : wL (L.take i) ≤ wL L := by
  have : wL L = wL (L.take i) + wL (L.drop i) := by rw [← wL_append, List.take_append_drop]
  omega
theorem wL_at {L : List (List Fi)} {i : Nat} (h : i < L.length) : wL (L.take i) + ((L.getD i []).length + 1) ≤ wL L := by
  have h1 : wL (L.take (i + 1)) ≤ wL L := wL_take
  rw [take_succ h, wL_append] at h1
  have h2 := wsum_len wF (fun x => by unfold wF; omega) (L.getD i [])
  have h3 : wL [L.getD i []] = wsum wF (L.getD i []) + 1 + 0 := rfl
  omega
theorem wL_len : ∀ L : List (List Fi), L.length ≤ wL L := fun L => wsum_len _ (fun _ => by omega) L
end Go.Proofs.YtcpnmpepcpcahaaGreatDoor.Lv
