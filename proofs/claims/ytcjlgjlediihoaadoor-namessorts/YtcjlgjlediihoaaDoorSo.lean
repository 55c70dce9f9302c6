/- The library's sort of texts by compare: a row in the order of names. -/
import Derived.Test.YtcjlgjlediihoaaDoorCo
import Derived.Test.YtcjlgjlediihoaaDoorDr
namespace Go.Proofs.YtcjlgjlediihoaaDoor.So
open Go.ChangeShapes Go.WideShapes Go.ChangeAt Go.RowKit
open Go.Sort Go.Lib
open Go.Proofs.YtcjlgjlediihoaaDoor.Gr
open Go.Proofs.YtcjlgjlediihoaaDoor.Es
open Go.Proofs.YtcjlgjlediihoaaDoor.Rw (Fm Tb pr rank_any Fm.later Tb.later)
open Go.Proofs.YtcjlgjlediihoaaDoor.Cf
open Go.Proofs.YtcjlgjlediihoaaDoor.Co
set_option linter.unusedVariables false
set_option linter.unusedSimpArgs false

/-- A text that a slice may hold. -/
abbrev Tx := { s : ByteArray // s.size ≤ 281474976710656 }
instance : Inhabited Tx := ⟨⟨ByteArray.empty, by decide⟩⟩
def en (x : Tx) : Value := .string x.1
def cT (x y : Tx) : Int := cf x.1 y.1
theorem swoT : SWO (ltOf cT) := by
  constructor
  · intro x
    have := cf_neg x.1 x.1
    show decide (cf x.1 x.1 < 0) = false
    rw [decide_eq_false_iff_not]
    omega
  · intro x y z h k
    exact decide_eq_true (cf_trans (of_decide_eq_true h) (of_decide_eq_true k))
  · intro x y z h k
    exact decide_eq_false (cf_le_trans (of_decide_eq_false k) (of_decide_eq_false h))
theorem heapV {w : World} {g n : Nat} {os : Array Obj} {cur : Array Value} {e : TypeId} {fr : Nat × Nat} (d : Array Value) (hb : w.heap[g]? = some (.cells cur e fr)) :
    (grow (putRow id (Sort.ahead w n) g 0 d) os).heap[g]? = some (.cells (putCells id 0 d cur) e fr) := by
  have hg : g < w.heap.size := (Array.getElem?_eq_some_iff.1 hb).1
  rw [heap_grow_old _ _ (by simpa using hg)]
  simp [putRow, mapBlock, Sort.ahead, Array.getElem?_modify, hb, onCells]
theorem grownV {w : World} {g n : Nat} {os : Array Obj} (d : Array Value) : w.grownBy (grow (putRow id (Sort.ahead w n) g 0 d) os) (some g) := by
  refine ⟨rfl, rfl, rfl, by simp, fun k hk hne => ?_⟩
  rw [heap_grow_old _ _ (by simpa using hk)]
  have : g ≠ k := fun e => hne (by rw [e])
  simp [putRow, mapBlock, Sort.ahead, Array.getElem?_modify, this]
theorem takeV (cur : Array Value) (ts : List Value) (h : ts.length ≤ cur.size) : (putCells id 0 ts.toArray cur).toList.take ts.length = ts := by
  apply List.ext_getElem?
  intro j
  by_cases hj : j < ts.length
  · rw [List.getElem?_take_of_lt hj, Array.getElem?_toList]
    simp [putCells, hj, show j < cur.size by omega]
  · rw [List.getElem?_take_eq_none (by omega), List.getElem?_eq_none (by omega)]
theorem holdsV {w : World} {g : Nat} {cur : Array Value} {e : TypeId} {ss : List Value} (hb : w.heap[g]? = some (.cells cur e (0, 0))) (ht : cur.toList.take ss.length = ss) : Holds id w g 0 ss.toArray := by
  intro j hj
  have hj' : j < ss.length := by simpa using hj
  refine ⟨?_, by simp [World.frozen?, hb]⟩
  have h1 : (cur.toList.take ss.length)[j]? = ss[j]? := by rw [ht]
  rw [List.getElem?_take_of_lt hj'] at h1
  simp only [World.cell?, hb, Nat.zero_add]
  simp only [Option.isSome_none, Bool.false_eq_true, if_false]
  rw [← Array.getElem?_toList, h1]
  simp [hj']
theorem cells_en (d : Array Tx) (c : Array Value) : putCells en 0 d c = putCells id 0 (d.map en) c := by
  unfold putCells
  apply Array.ext
  · simp
  · intro i h1 h2
    simp only [Array.getElem_mapIdx, Array.size_map]
    split
    · rename_i h
      have hi : i - 0 < d.size := by omega
      rw [getElem!_pos d (i - 0) hi, getElem!_pos (d.map en) (i - 0) (by simpa using hi)]
      simp
    · rfl
theorem row_en (W : World) (g : Nat) (d : Array Tx) : putRow en W g 0 d = putRow id W g 0 (d.map en) := by
  unfold putRow
  have : putCells en 0 d = putCells id 0 (d.map en) := funext (cells_en d)
  rw [this]
theorem world_en (W : World) (g n : Nat) (d : Array Tx) (os : Array Obj) : sortWorld en W g 0 n d os = grow (putRow id (Sort.ahead W n) g 0 (d.map en)) os := by
  unfold sortWorld
  rw [row_en]
theorem pmap_val (xs : List ByteArray) (h : ∀ x ∈ xs, x.size ≤ 281474976710656) : (xs.pmap (fun x hx => (⟨x, hx⟩ : Tx)) h).map Subtype.val = xs := by
  rw [List.map_pmap]
  simp
theorem map_en (l : List Tx) : (l.toArray.map en).toList = (l.map Subtype.val).map Value.string := by
  simp [en]
theorem std_of {d d' : Array Tx} {xs : List ByteArray} (hd : d.toList.map Subtype.val = xs) (hp : PermIn 0 d.size d d') (hs : SortedIn (ltOf cT) 0 d.size d') : Std xs (d'.toList.map Subtype.val) := by
  obtain ⟨h1, h2, h3⟩ := hp
  constructor
  · have e1 : d'.extract 0 d.size = d' := by rw [← h1]; simp
    have e2 : d.extract 0 d.size = d := by simp
    rw [e1, e2] at h3
    rw [← hd]
    exact h3.map _
  · rw [List.pairwise_map, List.pairwise_iff_getElem]
    intro i j hi hj hij
    have hj' : j < d'.size := by simpa using hj
    have hi' : i < d'.size := by omega
    have := hs i j (Nat.zero_le _) hij (by omega)
    rw [getElem!_pos d' j hj', getElem!_pos d' i hi'] at this
    rw [Array.getElem_toList, Array.getElem_toList]
    exact of_decide_eq_false this
theorem sort_own (w0 W : World) (base g c : Nat) (xs : List ByteArray) (o : eStr.Own W base (.slice (some ⟨g, 0, none⟩) xs.length c) xs) (hok : ∀ x ∈ xs, x.size ≤ 281474976710656) (hsz : xs.length ≤ 1099511627776) (F : Fm w0) (U : Tb w0) (hb0 : w0.heap.size ≤ base) (B : Below w0.heap.size w0 W) :
    Calls Tryd.prog 35 #[.slice (some ⟨g, 0, none⟩) xs.length c, .func (.func 36) #[] #[]] W fun e w' => e = .returned (.tuple #[]) ∧ ∃ ys, Std xs ys ∧ eStr.Own w' base (.slice (some ⟨g, 0, none⟩) xs.length c) ys ∧ W.grownBy w' (some g) := by
  unfold El.Own at o
  rcases o.2 with ⟨hnil, hl⟩ | ⟨g', cap, cur, hsv, hbase, hb, h1, h2, h3, h4⟩
  · cases hnil
  · cases hsv
    obtain ⟨d, hd, hd2⟩ : ∃ d : Array Tx, d.toList.map Subtype.val = xs ∧ d.size = xs.length := ⟨(xs.pmap (fun x hx => (⟨x, hx⟩ : Tx)) hok).toArray, pmap_val xs hok, by simp⟩
    have hcl : (eStr.cl xs).length = xs.length := by rw [eStr.cl_len]; exact Nat.mul_one _
    have hde : (d.map en) = (eStr.cl xs).toArray := by
      apply Array.toList_inj.1
      rw [clS, ← hd]
      simp [en]
    have h4' : cur.toList.take (eStr.cl xs).length = eStr.cl xs := by rw [hcl]; have := h4; rwa [show eStr.k = 1 from rfl, Nat.mul_one] at this
    have hH : Holds en W g 0 d := by
      have h := holdsV hb h4'
      rw [← hde] at h
      intro j hj
      have := h j (by simpa using hj)
      rw [getElem!_pos (d.map en) j (by simpa using hj)] at this
      rw [getElem!_pos d j hj]
      simpa using this
    have hbW : ∀ n d os, Below w0.heap.size w0 (sortWorld en W g 0 n d os) := by
      intro n d os
      rw [world_en]
      exact below_grown B B.size (grownV _) (fun j hj => by cases hj; omega)
    have hcmp : CmpLays1 Tryd.prog 36 #[] en cT g 0 d.size W := by
      intro m os dk hdk x y
      have hb := hbW m dk os
      exact Dr.calls_grown (Q := True) (compare_any x.1 y.1 x.2 y.2 _ (hid (F.later hb)) (hid (U.later hb)))
    have hcall := Sf.slices_SortFunc en (fun _ => rfl) cT swoT 36 #[] g 0 c d W (enters_of Tryd.func36 (by kernel_rfl) rfl) hcmp hH (Array.getElem?_eq_some_iff.1 hb).1 (by omega)
    rw [hd2] at hcall
    refine hcall.mono ?_
    rintro e w' ⟨rfl, d', n, os, hp, hs, rfl⟩
    have hst := std_of hd (by rw [hd2]; exact hp) (by rw [hd2]; exact hs)
    have hsz' : d'.size = xs.length := by rw [← hd2, hp.1]
    refine ⟨rfl, _, hst, ?_, ?_⟩
    · have hcl' : (eStr.cl (d'.toList.map Subtype.val)).length = xs.length := by rw [eStr.cl_len]; simp; rw [hsz']; exact Nat.mul_one _
      have hw : d'.map en = (eStr.cl (d'.toList.map Subtype.val)).toArray := by
        apply Array.toList_inj.1
        rw [clS]
        simp [en]
      unfold El.Own
      rw [world_en, hw]
      have hlm : (d'.toList.map Subtype.val).length = xs.length := by simp; exact hsz'
      have h3' : cur.size = c := by have := h3; rwa [show eStr.k = 1 from rfl, Nat.mul_one] at this
      refine ⟨by rw [hcl', hlm, show eStr.k = 1 from rfl, Nat.mul_one], .inr ⟨g, c, _, by rw [hlm], hbase, heapV _ hb, by rw [hlm]; exact h1, h2, by simp [putCells]; exact h3, ?_⟩⟩
      have := takeV cur (eStr.cl (d'.toList.map Subtype.val)) (by rw [hcl', h3']; exact h1)
      rw [hcl'] at this
      rw [hlm, show eStr.k = 1 from rfl, Nat.mul_one]
      exact this
    · rw [world_en]
      exact grownV _
end Go.Proofs.YtcjlgjlediihoaaDoor.So
