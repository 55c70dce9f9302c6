/- The law's acts that came in, opened. -/
import Derived.Test.YtgffojafdjcdoaaAo
import Derived.Test.YtgffojafdjcdoaaLl
namespace Go.Proofs.Ytgffojafdjcdoaa.Ot
open Go.ChangeShapes Go.WideShapes Go.ChangeAt Go.RowKit Go.Joins
open Go.Proofs.Ytgffojafdjcdoaa.By
open Go.Proofs.Ytgffojafdjcdoaa.Ln
open Go.Proofs.Ytgffojafdjcdoaa.Ac
open Go.Proofs.Ytgffojafdjcdoaa.Ao
open Go.Proofs.Ytgffojafdjcdoaa.Ll
set_option linter.unusedVariables false

theorem weightsAll_mem {H : Type} {P : Program} {e : TypeId} : ∀ {l : List (DataW H)} {d : DataW H}, d ∈ l → ∀ n ∈ d.weights P e, n ∈ DataW.weightsAll P e l
  | d0 :: r, d, hd, n, hn => by
    simp only [DataW.weightsAll, List.mem_append]
    rcases List.mem_cons.1 hd with rfl | hd
    · exact .inl hn
    · exact .inr (weightsAll_mem hd n hn)
set_option maxRecDepth 100000 in
theorem open_names {H : Type} {enc : TypeId × Value → H} {W : World} {n : Nat} {a : A} {x : DataW H × List MemPlace}
    (ht : DataW.trod enc Try.prog W 0 (fun _ => true) true n 35 a.cells.toList = some x) (hs : ∀ m ∈ x.1.weights Try.prog 35, m ≤ reachBytes) : a.name.size ≤ 9223372036854775807 ∧ a.to.size ≤ 9223372036854775807 := by
  obtain ⟨ys, n', _, hx, hlen, hl7, hf⟩ := DataW.trod_struct Try.underlying35 ht
  match ys, hl7 with
  | [y0, y1, y2, y3, y4, y5, y6], _ =>
    have h1 := hf 1 _ rfl
    have h2 := hf 2 _ rfl
    change DataW.trod enc Try.prog W 0 _ true n' 9 ((a.cells.toList.drop 1).take (Try.prog.cellsOf 9)) = some y1 at h1
    change DataW.trod enc Try.prog W 0 _ true n' 9 ((a.cells.toList.drop 2).take (Try.prog.cellsOf 9)) = some y2 at h2
    rw [show Try.prog.cellsOf 9 = 1 from by kernel_rfl] at h1 h2
    change DataW.trod enc Try.prog W 0 _ true n' 9 [.string a.name] = some y1 at h1
    change DataW.trod enc Try.prog W 0 _ true n' 9 [.string a.to] = some y2 at h2
    have hx1 : x.1 = .agg [y0.1, y1.1, y2.1, y3.1, y4.1, y5.1, y6.1] := by rw [hx]; rfl
    have hw1 : ∀ m ∈ y1.1.weights Try.prog 9, m ≤ reachBytes := fun q hq => hs q (by rw [hx1]; simp only [DataW.weights, Try.underlying35]; exact DataW.weights_mem_each (j := 1) (d := y1.1) rfl rfl q hq)
    have hw2 : ∀ m ∈ y2.1.weights Try.prog 9, m ≤ reachBytes := fun q hq => hs q (by rw [hx1]; simp only [DataW.weights, Try.underlying35]; exact DataW.weights_mem_each (j := 2) (d := y2.1) rfl rfl q hq)
    obtain ⟨x1, e1, f1, w1⟩ := DataW.trod_string Try.underlying9 h1
    obtain ⟨x2, e2, f2, w2⟩ := DataW.trod_string Try.underlying9 h2
    simp only [List.cons.injEq, and_true, Value.string.injEq] at e1 e2
    subst e1 e2
    have g1 := hw1 a.name.size (by rw [f1]; simp [DataW.weights])
    have g2 := hw2 a.to.size (by rw [f2]; simp [DataW.weights])
    simp only [reachBytes] at g1 g2
    exact ⟨by omega, by omega⟩
theorem open_acts {H : Type} {enc : TypeId × Value → H} {W : World} {fuel : Nat} {a : Option Addr} {len cap : Nat} {x : DataW H × List MemPlace}
    (hf : DataW.trod enc Try.prog W 0 (fun _ => true) true fuel 22 [.slice a len cap] = some x) (hs : ∀ m ∈ x.1.weights Try.prog 22, m ≤ reachBytes) : (∃ xs, Acts W a len cap xs) ∧ len ≤ 140737488351232 := by
  rcases Deep.open_slice Try.underlying22 hf with ⟨hcs, hx⟩ | ⟨ad, l, c, m, n, D, Pl, hcs, hb, hl, hm, hmm, hx, hcell⟩
  · simp at hcs
    obtain ⟨rfl, rfl, rfl⟩ := hcs
    exact ⟨⟨[], rfl, Nat.le_refl _, fun _ => ⟨rfl, rfl⟩, fun _ h => (by simp at h), fun _ _ _ h => by simp at h⟩, by omega⟩
  · simp at hcs
    obtain ⟨rfl, rfl, rfl⟩ := hcs
    rw [show Try.prog.cellsOf 35 = 7 from by kernel_rfl] at hcell
    have hml : len ≤ m := by rw [hmm]; split <;> omega
    have hx1 : x.1 = .slice ((List.range len).map D) ((List.range (m - len)).map fun j => D (len + j)) := by rw [hx]
    have hw : ∀ i, i < len → ∀ q ∈ (D i).weights Try.prog 35, q ≤ reachBytes := fun i hi q hq => hs q (by
      rw [hx1]
      simp only [DataW.weights, Try.underlying22]
      refine List.mem_cons_of_mem _ (List.mem_append_left _ (weightsAll_mem (d := D i) ?_ q hq))
      exact List.mem_map.2 ⟨i, by simpa using hi, rfl⟩)
    have hlen : len ≤ 140737488351232 := by
      have sz := hs _ (by rw [hx1]; simp only [DataW.weights, Try.underlying22]; exact List.mem_cons_self ..)
      have hb : 1 ≤ Try.prog.bytesOf 35 := of_decide_eq_true (by kernel_rfl)
      simp only [List.length_map, List.length_range, reachBytes] at sz
      have := Nat.le_trans (Nat.mul_le_mul_left (len + (m - len)) hb) sz
      omega
    refine ⟨?_, hlen⟩
    haveI : Inhabited A := ⟨za⟩
    obtain ⟨f, hfn⟩ := Deep.choose_lt (n := len) (p := fun i (e : A) => (e.ok W ∧ e.name.size ≤ 9223372036854775807 ∧ e.to.size ≤ 9223372036854775807) ∧ (ad.add (i * 7)).spot = none ∧ ∀ k, k < 7 → W.cell? ⟨(ad.add (i * 7)).block, (ad.add (i * 7)).off + k, none⟩ = e.cells[k]?) (fun i hi => by
      obtain ⟨cs', h1, h2⟩ := hcell i (by omega)
      obtain ⟨e, he, hcs⟩ := Ao.open_act h2 (hw i hi)
      subst hcs
      have hn := open_names h2 (hw i hi)
      obtain ⟨_, hlen', hcc⟩ := World.cells?_some h1
      have q0 := hcc 0 (by omega)
      generalize ad.add (i * 7) = ad' at *
      have hsp : ad'.spot = none := by simpa [Addr.add] using World.cell?_spot q0
      refine ⟨e, ⟨he, hn⟩, hsp, fun k hk => ?_⟩
      have q := hcc k hk
      obtain ⟨b, o, sp'⟩ := ad'
      simp only at hsp
      subst hsp
      rw [addr_add] at q
      rw [q]
      simp)
    refine ⟨(List.range len).map f, by simp, hl, fun e => by simp at e, ?_, ?_⟩
    · intro x hx
      obtain ⟨i, hi, rfl⟩ := List.mem_map.1 hx
      exact (hfn i (by simpa using hi)).1
    · intro b o p hp h0
      simp at hp
      subst hp
      have hp : p = none := by
        have := (hfn 0 h0).2.1
        simpa [Addr.add] using this
      subst hp
      refine ⟨rfl, fun i hi k hk => ?_⟩
      have := (hfn i hi).2.2 k hk
      rw [addr_add] at this
      simpa [List.getD_eq_getElem?_getD, hi] using this
end Go.Proofs.Ytgffojafdjcdoaa.Ot
