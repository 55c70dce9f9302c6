/- The library's sort of files by a function, by its contract, at this program. -/
import Derived.Shelf.SlGeneric
import Derived.Shelf.SlSortCmp.WholeK
import Derived.Shelf.SlSortCmp.NoneTotal
import Derived.Test.YtkpihibeohjfnaaCq
namespace Go.Proofs.Ytkpihibeohjfnaa.Sg
open Go.Proofs Go.Shelf
def sortF_ren : Go.Shelf.Ren := ⟨fun | 6 => 60 | 15 => 67 | 14 => 68 | 28 => 80 | 29 => 81 | 20 => 82 | 21 => 83 | 22 => 84 | 23 => 85 | 24 => 86 | 25 => 87 | 26 => 88 | 27 => 89 | 46 => 95 | 47 => 91 | 48 => 92 | 49 => 96 | 50 => 97 | 57 => 99 | n => n, fun | 22 => 39 | 24 => 43 | 25 => 92 | 3 => 3 | 39 => 93 | 0 => 0 | 53 => 109 | 55 => 24 | 4 => 4 | 46 => 101 | 45 => 100 | 50 => 106 | 5 => 5 | 9 => 9 | 66 => 116 | 70 => 120 | 76 => 124 | 77 => 125 | n => n, fun | n => n⟩
theorem sortF : Go.Proofs.SlLaysF0.n6 Try.prog sortF_ren := {
  mixed := by kernel_rfl
  f6 := ⟨Try.f60.name, by decide, Try.func60.trans (congrArg some (by kernel_rfl))⟩
  f14 := ⟨Try.f68.name, by decide, Try.func68.trans (congrArg some (by kernel_rfl))⟩
  f15 := Try.func67.trans (congrArg some (by kernel_rfl))
  f20 := ⟨Try.f82.name, by decide, Try.func82.trans (congrArg some (by kernel_rfl))⟩
  f21 := ⟨Try.f83.name, by decide, Try.func83.trans (congrArg some (by kernel_rfl))⟩
  f22 := ⟨Try.f84.name, by decide, Try.func84.trans (congrArg some (by kernel_rfl))⟩
  f23 := ⟨Try.f85.name, by decide, Try.func85.trans (congrArg some (by kernel_rfl))⟩
  f24 := ⟨Try.f86.name, by decide, Try.func86.trans (congrArg some (by kernel_rfl))⟩
  f25 := ⟨Try.f87.name, by decide, Try.func87.trans (congrArg some (by kernel_rfl))⟩
  f26 := ⟨Try.f88.name, by decide, Try.func88.trans (congrArg some (by kernel_rfl))⟩
  f27 := ⟨Try.f89.name, by decide, Try.func89.trans (congrArg some (by kernel_rfl))⟩
  f28 := Try.func80.trans (congrArg some (by kernel_rfl))
  f29 := Try.func81.trans (congrArg some (by kernel_rfl))
  f46 := ⟨Try.f95.name, by decide, Try.func95.trans (congrArg some (by kernel_rfl))⟩
  f47 := Try.func91.trans (congrArg some (by kernel_rfl))
  f48 := Try.func92.trans (congrArg some (by kernel_rfl))
  f49 := ⟨Try.f96.name, by decide, Try.func96.trans (congrArg some (by kernel_rfl))⟩
  f50 := ⟨Try.f97.name, by decide, Try.func97.trans (congrArg some (by kernel_rfl))⟩
  f57 := ⟨Try.f99.name, by decide, Try.func99.trans (congrArg some (by kernel_rfl))⟩
  t0 := Try.underlying0
  a0 := Try.isAgg0
  z0 := Try.sizeOf0
  v0 := Try.zeroValue0
  t3 := Try.underlying3
  a3 := Try.isAgg3
  z3 := Try.sizeOf3
  v3 := Try.zeroValue3
  t4 := Try.underlying4
  a4 := Try.isAgg4
  z4 := Try.sizeOf4
  v4 := Try.zeroValue4
  t5 := Try.underlying5
  a5 := Try.isAgg5
  z5 := Try.sizeOf5
  v5 := Try.zeroValue5
  t9 := Try.underlying9
  a9 := Try.isAgg9
  z9 := Try.sizeOf9
  v9 := Try.zeroValue9
  t22 := Try.underlying39
  a22 := Try.isAgg39
  z22 := Try.sizeOf39
  v22 := Try.zeroValue39
  t25 := Try.underlying92
  a25 := Try.isAgg92
  z25 := Try.sizeOf92
  v25 := Try.zeroValue92
  t39 := Try.underlying93
  a39 := Try.isAgg93
  z39 := Try.sizeOf93
  v39 := Try.zeroValue93
  t45 := Try.underlying100
  a45 := Try.isAgg100
  z45 := Try.sizeOf100
  v45 := Try.zeroValue100
  t46 := Try.underlying101
  a46 := Try.isAgg101
  z46 := Try.sizeOf101
  v46 := Try.zeroValue101
  t50 := Try.underlying106
  a50 := Try.isAgg106
  z50 := Try.sizeOf106
  v50 := Try.zeroValue106
  t53 := Try.underlying109
  a53 := Try.isAgg109
  z53 := Try.sizeOf109
  v53 := Try.zeroValue109
  t55 := Try.underlying24
  a55 := Try.isAgg24
  z55 := Try.sizeOf24
  v55 := Try.zeroValue24
  t66 := Try.underlying116
  a66 := Try.isAgg116
  z66 := Try.sizeOf116
  v66 := Try.zeroValue116
  t70 := Try.underlying120
  a70 := Try.isAgg120
  z70 := Try.sizeOf120
  v70 := Try.zeroValue120
  t76 := Try.underlying124
  a76 := Try.isAgg124
  z76 := Try.sizeOf124
  v76 := Try.zeroValue124
  t77 := Try.underlying125
  a77 := Try.isAgg125
  z77 := Try.sizeOf125
  v77 := Try.zeroValue125 }
open Go.ChangeShapes Go.WideShapes Go.ChangeAt Go.RowKit
open Go.Sort Go.Lib
open Go.Proofs.Ytkpihibeohjfnaa.Gr
open Go.Proofs.Ytkpihibeohjfnaa.Ev
open Go.Proofs.Ytkpihibeohjfnaa.Cq
set_option linter.unusedVariables false
set_option linter.unusedSimpArgs false

instance : Inhabited Fi := ⟨zf⟩
theorem flat_eq (fs : List Fi) : flatK fcs 6 fs.toArray = (eFi.cl fs).toArray := by
  apply Array.ext
  · simp [El.cl_len]; rfl
  · intro i h1 h2
    have h3 : i < fs.length * 6 := by simpa using h1
    have hq : i / 6 < fs.length := by omega
    have hr : i % 6 < 6 := Nat.mod_lt _ (by decide)
    have e := eFi.cl_get fs (i / 6) hq (i % 6) hr
    have hi : i / 6 * eFi.k + i % 6 = i := by show i / 6 * 6 + i % 6 = i; omega
    rw [hi] at e
    have g1 := get_flatK fcs 6 fs.toArray i (by simpa using h3)
    rw [getElem!_pos _ i h1] at g1
    rw [g1]
    have h2' : i < (eFi.cl fs).length := by simpa using h2
    rw [List.getElem_toArray]
    rw [List.getElem?_eq_getElem h2'] at e
    have hg : fs.toArray[i / 6]! = fs.getD (i / 6) zf := by
      rw [getElem!_pos fs.toArray (i / 6) (by simpa using hq), List.getElem_toArray, List.getD_eq_getElem?_getD, List.getElem?_eq_getElem hq]; rfl
    rw [hg]
    have hl : i % 6 < (fcs (fs.getD (i / 6) zf)).length := hr
    rw [getElem!_pos (fcs (fs.getD (i / 6) zf)) (i % 6) hl]
    have e' : (fcs (fs.getD (i / 6) zf))[i % 6]? = some ((eFi.cl fs)[i]) := e.symm
    rw [List.getElem?_eq_getElem hl] at e'
    exact Option.some.inj e'
theorem heapV {w : World} {g n : Nat} {os : Array Obj} {cur : Array Value} {e : TypeId} {fr : Nat × Nat} (d : Array Value) (hb : w.heap[g]? = some (.cells cur e fr)) :
    (grow (putRow id (Sort.ahead w n) g 0 d) os).heap[g]? = some (.cells (putCells id 0 d cur) e fr) := by
  have hg : g < w.heap.size := (Array.getElem?_eq_some_iff.1 hb).1
  rw [heap_grow_old _ _ (by simpa using hg)]
  simp [putRow, mapBlock, Sort.ahead, Array.getElem?_modify, hb, onCells]
theorem grownV {w : World} {g n : Nat} {os : Array Obj} (d : Array Value) : w.grownBy (grow (putRow id (Sort.ahead w n) g 0 d) os) (some g) := by
  refine ⟨rfl, rfl, rfl, by simp, fun k hk hne => ?_⟩
  rw [heap_grow_old _ _ (by simpa using hk)]
  have : g ≠ k := fun e => hne (by rw [e])
  simp [putRow, mapBlock, Sort.ahead, Array.getElem?_modify, this]
theorem takeV (cur : Array Value) (ts : List Value) (h : ts.length ≤ cur.size) : (putCells id 0 ts.toArray cur).toList.take ts.length = ts := by
  apply List.ext_getElem?
  intro j
  by_cases hj : j < ts.length
  · rw [List.getElem?_take_of_lt hj, Array.getElem?_toList]
    simp [putCells, hj, show j < cur.size by omega]
  · rw [List.getElem?_take_eq_none (by omega), List.getElem?_eq_none (by omega)]
theorem holdsV {w : World} {g : Nat} {cur : Array Value} {e : TypeId} {ss : List Value} (hb : w.heap[g]? = some (.cells cur e (0, 0))) (ht : cur.toList.take ss.length = ss) : Holds id w g 0 ss.toArray := by
  intro j hj
  have hj' : j < ss.length := by simpa using hj
  refine ⟨?_, by simp [World.frozen?, hb]⟩
  have h1 : (cur.toList.take ss.length)[j]? = ss[j]? := by rw [ht]
  rw [List.getElem?_take_of_lt hj'] at h1
  simp only [World.cell?, hb, Nat.zero_add]
  simp only [Option.isSome_none, Bool.false_eq_true, if_false]
  rw [← Array.getElem?_toList, h1]
  simp [hj']
theorem cell_sort {w : World} {g h n : Nat} {os : Array Obj} {d : Array Value} {v : Value} (hc : w.cell? ⟨h, 0, none⟩ = some v) (hne : h ≠ g) : (grow (putRow id (Sort.ahead w n) g 0 d) os).cell? ⟨h, 0, none⟩ = some v := by
  have := (grownV (w := w) (g := g) (n := n) (os := os) d).block h (block_lt_of_cell hc) (fun e => hne (by injection e))
  unfold World.cell? at hc ⊢
  rw [this]
  exact hc
theorem sorted_list {lt : Fi → Fi → Bool} {d : Array Fi} {fs : List Fi} {d' : Array Fi} (hd : d = fs.toArray) (hp : PermIn 0 d.size d d') (hs : SortedIn lt 0 d.size d') : d'.toList.Perm fs ∧ d'.toList.Pairwise (fun x y => lt y x = false) := by
  obtain ⟨h1, h2, h3⟩ := hp
  constructor
  · have e1 : d'.extract 0 d.size = d' := by rw [← h1]; simp
    have e2 : d.extract 0 d.size = d := by simp
    rw [e1, e2, hd] at h3
    simpa using h3
  · rw [List.pairwise_iff_getElem]
    intro i j hi hj hij
    have hj' : j < d'.size := by simpa using hj
    have hi' : i < d'.size := by omega
    have := hs i j (Nat.zero_le _) hij (by omega)
    rw [getElem!_pos d' j hj', getElem!_pos d' i hi'] at this
    simpa using this
theorem sort_own (lv gl base : Nat) (v : Value) (fs : List Fi) (W : World) (o : eFi.Own W base v fs) (hc : W.cell? ⟨gl, 0, none⟩ = some (.int .i64 lv)) (hne : v.ownBlock ≠ some gl) (hsz : fs.length ≤ 1099511627776) :
    Calls Try.prog 60 #[v, .func (.func 61) #[] #[.pointer (some ⟨gl, 0, none⟩)]] W fun e w' => e = .returned (.tuple #[]) ∧ ∃ fs', fs'.Perm fs ∧ fs'.Pairwise (fun x y => lF lv y x = false) ∧ eFi.Own w' base v fs' ∧ W.grownBy w' v.ownBlock := by
  unfold El.Own at o
  rcases o.2 with ⟨hnil, hl⟩ | ⟨g, cap, cur, hsv, hbase, hb, h1, h2, h3, h4⟩
  · subst hnil
    have hfs : fs = [] := List.length_eq_zero_iff.1 hl
    subst hfs
    refine (AnyF.slices_SortFunc_none sortF none 0 _ W).mono ?_
    rintro e w' ⟨rfl, rfl⟩
    exact ⟨rfl, [], List.Perm.refl _, List.Pairwise.nil, El.Own.nil _ _ _, ⟨rfl, rfl, rfl, Nat.le_refl _, fun _ _ _ => rfl⟩⟩
  · subst hsv
    have hcl : (eFi.cl fs).length = fs.length * 6 := eFi.cl_len fs
    have hH : HoldsK fcs 6 W g 0 fs.toArray := by
      unfold HoldsK
      rw [flat_eq]
      exact holdsV hb (by rw [hcl]; exact h4)
    have hne' : gl ≠ g := fun e => hne (by rw [e]; rfl)
    have hcmp : CmpLays Try.prog 61 #[.pointer (some ⟨gl, 0, none⟩)] fcs 6 (cF lv) g 0 fs.toArray.size W := by
      intro m os dk hdk x y
      exact closure lv gl x y _ (cell_sort hc hne')
    have hcall := AnyQ.slices_SortFunc sortF 6 Try.isAgg43 Try.sizeOf43 fcs (fun _ => rfl) (fun x u hu => eFi.one x u hu) (cF lv) (swoF lv) 61 #[.pointer (some ⟨gl, 0, none⟩)] g 0 cap fs.toArray W (enters_of Try.func61 (by kernel_rfl) rfl) hcmp hH (Array.getElem?_eq_some_iff.1 hb).1 (by simp; omega)
    rw [show fs.toArray.size = fs.length by simp] at hcall
    refine hcall.mono ?_
    rintro e w' ⟨rfl, d', n, os, hp, hs, rfl⟩
    rw [ltF] at hs
    obtain ⟨p1, p2⟩ := sorted_list (fs := fs) rfl (by simpa using hp) (by simpa using hs)
    refine ⟨rfl, d'.toList, p1, p2, ?_, ?_⟩
    · have hl := p1.length_eq
      have hcl' : (eFi.cl d'.toList).length = d'.toList.length * 6 := eFi.cl_len _
      have h3' : cur.size = cap * 6 := h3
      have hw : sortWorldK fcs 6 W g 0 n d' os = grow (putRow id (Sort.ahead W n) g 0 (eFi.cl d'.toList).toArray) os := by
        unfold sortWorldK putRowK
        rw [← flat_eq, Array.toArray_toList]
      unfold El.Own
      rw [hw]
      refine ⟨by rw [hcl']; rfl, .inr ⟨g, cap, _, by rw [hl], hbase, heapV _ hb, by rw [hl]; exact h1, h2, by simp [putCells]; exact h3, ?_⟩⟩
      have := takeV cur (eFi.cl d'.toList) (by rw [hcl', h3', hl]; omega)
      rw [hcl'] at this
      exact this
    · unfold sortWorldK putRowK
      exact grownV _
end Go.Proofs.Ytkpihibeohjfnaa.Sg
