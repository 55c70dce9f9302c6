/- Proved: for every list of names NamesSorts returns true: Sort tells what the document's Sort tells of the first 2000; what was handed in stays, and the answer is new memory. The listed variables are tied to the program's text. No condition. -/
import Derived.Test.YtcjlgjlediihoaaDoorLw
import Derived.Test.YtcjlgjlediihoaaDoorCards
import Derived.Test.YtcjlgjlediihoaaDoorTie
import Derived.SevenTiedAt
import Derived.ShutString
import Derived.ChangeOld
import Derived.Below
import Derived.SizedLaws
import Derived.Deep.Strs
import Derived.Lib.SmallJoins
import Derived.Deep.RegionWith
import Derived.Deep.DeepHandedRow
namespace Go.Proofs.YtcjlgjlediihoaaDoor.namesSorts
open Go.ChangeShapes Go.WideShapes Go.ChangeAt Go.RowKit Go.Joins
open Go.Proofs.YtcjlgjlediihoaaDoor.Rw (Fm Tb laid4 tabs4_of)
open Go.Proofs.YtcjlgjlediihoaaDoor.Gr
open Go.Proofs.YtcjlgjlediihoaaDoor.Es
set_option linter.unusedVariables false

theorem own : ownKnob Tryd.prog.godebug = none := by kernel_rfl
theorem laidOut : laidOutB Tryd.prog = true := by kernel_rfl
theorem door_met (os : Os) (args : Array Value) : laidMetH Tryd.prog laid4 ((World.doorLaid Tryd.prog 400 os).forCall (fun _ _ => 0) ⟨#[], args, []⟩).memory :=
  laidMetH_of_parts3 (fuel := 8) (laidMet_of_run' 8 (by kernel_rfl) (by kernel_rfl)) (by kernel_rfl) (by kernel_rfl)
theorem all_weights {H : Type} {P : Program} {e : TypeId} : ∀ {l : List (DataW H)} {i : Nat} {d : DataW H} {n : Nat}, l[i]? = some d → n ∈ d.weights P e → n ∈ DataW.weightsAll P e l
  | [], _, _, _, h, _ => by simp at h
  | x :: r, 0, _, _, h, hn => by
    simp at h
    subst h
    simp only [DataW.weightsAll, List.mem_append]
    exact .inl hn
  | x :: r, i + 1, _, _, h, hn => by
    simp only [DataW.weightsAll, List.mem_append]
    exact .inr (all_weights (by simpa using h) hn)
set_option maxRecDepth 100000 in
theorem open_strs {H : Type} {enc : TypeId × Value → H} {W : World} {fuel : Nat} {a : Option Addr} {len cap : Nat} {d : DataW H} {p : List MemPlace}
    (hf : DataW.trod enc Tryd.prog W 0 (fun _ => true) true fuel 39 [.slice a len cap] = some (d, p)) (hw : ∀ n ∈ d.weights Tryd.prog 39, n ≤ 281474976710656) : ∃ xs, eStr.Sl W a len cap xs := by
  rcases Deep.open_slice1 Tryd.underlying39 (by kernel_rfl) hf with ⟨hcs, hx⟩ | ⟨ad, l, c, m, n, V, D, Pl, hcs, hb, hl, hm, hmm, hx, hcell⟩
  · simp at hcs
    obtain ⟨rfl, rfl, rfl⟩ := hcs
    exact ⟨[], El.Sl.none _ _⟩
  · simp at hcs
    obtain ⟨rfl, rfl, rfl⟩ := hcs
    have hml : len ≤ m := by rw [hmm]; simp; exact hl
    have hd : d = .slice ((List.range len).map D) ((List.range (m - len)).map fun j => D (len + j)) := (Prod.mk.inj hx).1
    obtain ⟨f, hfn⟩ := Deep.choose_lt (n := len) (p := fun i (s : ByteArray) => V i = .string s ∧ s.size ≤ 281474976710656) (fun i hi => by
      obtain ⟨h1, h2⟩ := hcell i (by omega)
      obtain ⟨s, e1, e2, _⟩ := DataW.trod_string Tryd.underlying9 h2
      simp at e1
      refine ⟨s, e1, ?_⟩
      have hD : D i = .lit (.string s.data.toList) := congrArg Prod.fst e2
      have hm : s.data.toList.length ∈ d.weights Tryd.prog 39 := by
        rw [hd]
        simp only [DataW.weights, Tryd.underlying39, List.mem_cons, List.mem_append]
        refine .inr (.inl (all_weights (i := i) (d := .lit (.string s.data.toList)) ?_ ?_))
        · rw [List.getElem?_map, List.getElem?_range hi]
          show some (D i) = _
          rw [hD]
        · simp [DataW.weights]
      have := hw _ hm
      rwa [Array.length_toList] at this)
    refine ⟨(List.range len).map f, ⟨by simp, hl, (fun e => by simp at e), ?_, ?_⟩⟩
    · intro s hs
      obtain ⟨i, hi, rfl⟩ := List.mem_map.1 hs
      exact (hfn i (by simpa using hi)).2
    · intro b o sp hp h0
      cases hp
      have hsp : sp = none := by
        have h := (hcell 0 (by omega)).1
        simpa [Addr.add] using World.cell?_spot h
      subst hsp
      refine ⟨rfl, fun i hi j u hu => ?_⟩
      match j, hu with
      | 0, hu =>
        have hc := (hcell i (by omega)).1
        rw [(hfn i hi).1, addr_add] at hc
        have e : ((List.range len).map f).getD i eStr.z = f i := by simp [List.getD_eq_getElem?_getD, hi]
        rw [e] at hu
        simp [eStr] at hu
        subst hu
        rw [show o + i * eStr.k + 0 = o + i by rw [show eStr.k = 1 from rfl]; omega]
        exact hc
set_option maxRecDepth 100000 in
theorem lifted (os : Os) (started : os.Started) (H : Type) (enc : TypeId × Value → H) :
    ReturnsInHanded {} Tryd.checked os 4 .any (fun w args => (Rows.namesSortsSpec.pre enc Tryd.prog Tryd.f4 [] false w args ∧ laidMetH Tryd.prog laid4 w) ∧ sizedMet enc Tryd.prog Tryd.f4 (OpenSpec.ofChange Rows.namesSortsSpec) false w args)
      (Rows.namesSortsSpec.post enc Tryd.prog Tryd.f4 false true false false) := by
  refine returnsInHanded_of_change_and (C := Tryd.checked) (X := fun w _ => laidMetH Tryd.prog laid4 w) (fun _ _ _ hh h => h.of_heap hh) own started (by kernel_rfl) Tryd.func4
    (ChangeSpec.witness_shaped (enc := enc) (C := Tryd.checked) (os := os) (X := fun w _ => laidMetH Tryd.prog laid4 w) false (World.doorLaid Tryd.prog 400 os) #[.slice none 0 0] 8 rfl (World.shaped_of_RefB (by kernel_rfl) (by kernel_rfl)) (by kernel_rfl) (by kernel_rfl) (by kernel_rfl) (door_met os _)) ?_
  intro W base args ds gs before hval0 hW hcnd hsz0 hL _
  have TF : Hid (Fm W) := (tabs4_of hL).1
  have TU : Hid (Tb W) := (tabs4_of hL).2
  have hval : ∀ (j : Nat) t v, Tryd.f4.params[j]? = some t → args[j]? = some v → Value.okWide Tryd.prog W .any base t v := hval0
  have hsz : (DataW.weightsEach Tryd.prog (Tryd.f4.params.toList ++ Rows.namesSortsSpec.plain.varTypes Tryd.prog) (ds ++ gs)).all (· ≤ reachBytes) = true := hsz0
  have hW' := hW
  obtain ⟨p, q, hA0, hV, rfl, hfz, hnd⟩ := hW
  have hA : DataW.TrodAll enc Tryd.prog W 0 (fun _ => true) true Tryd.f4.params.toList args.toList ds p := hA0
  rw [Tryd.params4] at hA hval hsz
  obtain ⟨v0, vs0, d0, ds0, p0, q0, hargs, rfl, rfl, h0, r0⟩ := trodAll_cons hA
  obtain ⟨rfl, rfl, rfl⟩ := trodAll_nil r0
  obtain rfl : args = #[v0] := by cases args; simp_all
  obtain ⟨rfl, rfl⟩ := trodVars_none hV
  have k0 := h0
  have lt0 : ∀ x ∈ p0, x.block < W.heap.size := by obtain ⟨m, hm⟩ := k0; exact DataW.trod_lt m _ _ _ hm
  obtain ⟨a0, len0, cap0, rfl⟩ := okWide_slice Tryd.underlying39 (hval 0 39 v0 rfl rfl)
  have hwt : ∀ n ∈ d0.weights Tryd.prog 39, n ≤ 281474976710656 := by
    intro n hn
    have h1 := List.all_eq_true.1 hsz n (DataW.weights_mem_each (j := 0) (t := 39) (d := d0) rfl rfl n hn)
    have h2 : n ≤ reachBytes := by simpa using h1
    have h3 : reachBytes = 140737488351232 := rfl
    omega
  obtain ⟨xs, hs⟩ : ∃ xs, eStr.Sl W a0 len0 cap0 xs := by
    obtain ⟨fuel, hf⟩ := h0
    exact open_strs (by simpa [Value.cells] using hf) hwt
  clear hA0 hval0
  refine (Lw.sorts_any a0 len0 cap0 xs W hs TF TU).mono fun e W' ⟨he, bel⟩ => ?_
  subst he
  exact ⟨_, rfl, _, _, _, [], _, [], hW', trodAll_mk1 (shut_bool Tryd.underlying4 _), (trodAll_cons_mk (Below.trod laidOut (by kernel_rfl) (of_decide_eq_true (by kernel_rfl)) k0 bel lt0) trodAll_mk0), rfl, bel.frame _, fun h => by cases h⟩
theorem over : Rows.NamesSortsSaid :=
  OpenClaim.holds_of_wide 4 Tryd.f4 rfl rfl rfl rfl rfl rfl rfl ⟨rfl, rfl, rfl, rfl, rfl⟩ rfl rfl rfl rfl rfl (by kernel_rfl) Tryd.func4 (by kernel_rfl)
    (of_decide_eq_true (by kernel_rfl)) (by unfold Func.isWrapper; first | (rw [if_pos (by decide +kernel)]; kernel_rfl) | (rw [if_neg (by decide +kernel)]; exact ⟨rfl, rfl⟩))
    (fun os started H enc _ => lifted os started H enc)

/-! ### The card: the variables tied to the program's text -/
theorem plain (f : FuncId) (fn : Func) (hf : Tryd.pinned.checked.prog.funcNamed "moraine/morainelaw06.NamesSorts" = some f) (hfn : Tryd.pinned.checked.prog.funcs[f]? = some fn) :
    false = Tryd.pinned.checked.prog.looks [] ∧ ∀ (j : Nat) t, fn.params[j]? = some t → Tryd.pinned.checked.prog.wantsStandIn t = false := by
  obtain rfl : f = 4 := Option.some.inj ((show Tryd.prog.funcNamed "moraine/morainelaw06.NamesSorts" = some 4 by kernel_rfl).symm.trans hf) |>.symm
  obtain rfl : fn = Tryd.f4 := (Option.some.inj (Tryd.func4.symm.trans hfn)).symm
  refine ⟨by kernel_rfl, fun j t ht => ?_⟩
  rw [Tryd.params4] at ht
  have hm : t ∈ [39] := by
    have := Array.mem_of_getElem? ht
    simp at this ⊢
    omega
  have hall : ([39].all fun u => !Tryd.prog.wantsStandIn u) = true := by kernel_rfl
  exact (show Tryd.prog.wantsStandIn t = false by simpa using List.all_eq_true.1 hall t hm)
theorem carded : Rows.NamesSortsCardSaid :=
  Claim7.holds_tied_plain_at .later [] _ _ _ _ over (fun _ h => by cases h) (by kernel_rfl) (fun _ h => by cases h) namesSorts_row_tie rfl ⟨rfl, rfl⟩ (by kernel_rfl) rfl plain (by kernel_rfl)
end Go.Proofs.YtcjlgjlediihoaaDoor.namesSorts
namespace Go.Proofs.YtcjlgjlediihoaaDoor
theorem namesSorts_holds : Rows.NamesSortsCardSaid := namesSorts.carded
#print axioms namesSorts_holds
end Go.Proofs.YtcjlgjlediihoaaDoor
