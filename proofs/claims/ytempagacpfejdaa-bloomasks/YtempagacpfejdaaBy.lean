/- Bytes that can be read, rows of bytes of the call's own, bytes as a text. -/
import Derived.Test.YtempagacpfejdaaMk
import Derived.Lib.ConvBytes
import Derived.Lib.AppendStr
namespace Go.Proofs.Ytempagacpfejdaa.By
open Go.ChangeShapes Go.WideShapes Go.ChangeAt Go.RowKit
open Go.Proofs.Ytempagacpfejdaa.Wd
open Go.Proofs.Ytempagacpfejdaa.Rq
open Go.Proofs.Ytempagacpfejdaa.Fl
open Go.Proofs.Ytempagacpfejdaa.Mk
set_option linter.unusedVariables false
set_option linter.unusedSimpArgs false

theorem addr_add (b off n : Nat) : (⟨b, off, none⟩ : Addr).add n = ⟨b, off + n, none⟩ := by
  unfold Addr.add; split <;> simp_all

/-- A slice of bytes that can be read: its bytes are 'zs'. -/
def Bytes (w : World) (a : Option Addr) (len cap : Nat) (zs : List Int) : Prop :=
  zs.length = len ∧ len ≤ cap ∧ (a = none → len = 0 ∧ cap = 0) ∧ (∀ y ∈ zs, 0 ≤ y ∧ y ≤ 255) ∧ (∀ x, a = some x → ∀ i, i < len → w.cell? (x.add i) = some (.int .u8 (zs.getD i 0)))
theorem info5 : (Try.prog.info? 5).map (fun i => (i.zero, i.size, i.bytes)) = some (some (.int .u8 0), 1, 1) := by kernel_rfl
theorem grown_trans {a b c : World} {row : Option Nat} (h : a.grownBy b row) (k : b.grownBy c row) : a.grownBy c row :=
  ⟨k.os.trans h.os, k.tape.trans h.tape, k.output.trans h.output, Nat.le_trans h.size k.size, fun j hj hne => (k.block j (Nat.lt_of_lt_of_le hj h.size) hne).trans (h.block j hj hne)⟩
theorem grown_none {a b : World} {row : Option Nat} (h : a.grownBy b none) : a.grownBy b row :=
  ⟨h.os, h.tape, h.output, h.size, fun j hj hne => h.block j hj (by simp)⟩
theorem grown_below {a b : World} {row : Option Nat} (h : a.grownBy b row) (hr : ∀ k, row = some k → a.heap.size ≤ k) : Below a.heap.size a b :=
  (Below.refl _ _).grown h (Nat.le_refl _) hr

/-- A row of bytes of the call's own: block g, n bytes, room for cap. -/
def Row (w : World) (base g n cap : Nat) (xs : List Int) : Prop :=
  w.ownsRow base 5 1 (.slice (some ⟨g, 0, none⟩) n cap) n (xs.map (Value.int .u8))

theorem one_cell (xs : List Int) : ∀ u ∈ xs.map (Value.int .u8), u.oneCell' = true := by
  intro u hu
  obtain ⟨x, _, rfl⟩ := List.mem_map.1 hu
  rfl

theorem Row.len {w : World} {base g n cap : Nat} {xs : List Int} (h : Row w base g n cap xs) : xs.length = n := by
  have := h.1; simpa using this
theorem Row.cell {w : World} {base g n cap : Nat} {xs : List Int} (h : Row w base g n cap xs) (i : Nat) (hi : i < n) : w.cell? ⟨g, i, none⟩ = some (.int .u8 (xs.getD i 0)) := by
  have hl := h.len
  rw [World.ownsRow.cellAt h i (by omega), List.getElem?_map, List.getD_eq_getElem?_getD, List.getElem?_eq_getElem (by omega)]
  rfl
theorem Row.bytes {w : World} {base g n cap : Nat} {xs : List Int} (h : Row w base g n cap xs) (hb : ∀ y ∈ xs, 0 ≤ y ∧ y ≤ 255) : Bytes w (some ⟨g, 0, none⟩) n cap xs := by
  refine ⟨h.len, ?_, fun e => by simp at e, hb, ?_⟩
  · rcases h.2 with ⟨e, _⟩ | ⟨g', cap', cur, e, _, _, hn, _⟩
    · simp at e
    · simp at e; omega
  · intro x hx i hi
    simp at hx
    subst hx
    rw [addr_add, Nat.zero_add]
    exact h.cell i hi
theorem Row.lt {w : World} {base g n cap : Nat} {xs : List Int} (h : Row w base g n cap xs) : base ≤ g ∧ g < w.heap.size := World.ownsRow.lt h g rfl
theorem Row.alloc {w : World} {base g n cap : Nat} {xs : List Int} (h : Row w base g n cap xs) (o : Obj) : Row (w.alloc o) base g n cap xs := World.ownsRow.alloc h o
theorem Row.kept {w w' : World} {base g n cap : Nat} {xs : List Int} {row : Option Nat} (h : Row w base g n cap xs) (k : w.grownBy w' row) (hne : row ≠ some g) : Row w' base g n cap xs :=
  World.ownsRow.kept h k (.inr (by simpa [Value.ownBlock] using Ne.symm hne))

theorem bytes_later {w w' : World} {a : Option Addr} {len cap : Nat} {zs : List Int} (H : Bytes w a len cap zs) (hb : Below w.heap.size w w') :
    (a = none → len = 0 ∧ cap = 0) ∧ ∀ ad, a = some ad → ∀ j u, (zs.map (Value.int .u8))[j]? = some u → w'.cell? (ad.add j) = some u := by
  refine ⟨H.2.2.1, ?_⟩
  intro ad had j u hu
  rw [List.getElem?_map] at hu
  cases hj : zs[j]? with
  | none => rw [hj] at hu; simp at hu
  | some y =>
    rw [hj] at hu
    simp at hu
    have hlt : j < zs.length := (List.getElem?_eq_some_iff.1 hj).1
    have := H.2.2.2.2 ad had j (by rw [← H.1]; exact hlt)
    rw [List.getD_eq_getElem?_getD, hj] at this
    rw [← hu]
    exact cell_later hb this

/-! ### Bytes as a string -/
def str (ns : List Int) : ByteArray := ns.foldl (fun r n => r.push (UInt8.ofNat n.toNat)) ByteArray.empty
theorem nil_bytes (w : World) : Bytes w none 0 0 [] := ⟨rfl, Nat.le_refl _, fun _ => ⟨rfl, rfl⟩, by simp, by simp⟩
theorem conv_run (W : World) (a : Option Addr) (len cap : Nat) (zs : List Int) (hz : zs.length = len) (hn : a = none → len = 0 ∧ cap = 0)
    (hc : ∀ x, a = some x → ∀ i, i < len → W.cell? (x.add i) = some (.int .u8 (zs.getD i 0))) :
    Sem.run Try.prog (convert 33 9 (.slice a len cap)) W = .ok (.string (str zs)) W := by
  rw [run_convert_bytes_string W 33 9 5 a len cap Try.underlying33 Try.underlying5 Try.underlying9]
  cases a with
  | none =>
    obtain ⟨rfl, rfl⟩ := hn rfl
    have : zs = [] := List.eq_nil_of_length_eq_zero hz
    subst this
    rfl
  | some x =>
    have h := run_loadCells_list (P := Try.prog) (w := W) x (zs.map (Value.int .u8)) (by
      intro j u hu
      rw [List.getElem?_map] at hu
      cases hj : zs[j]? with
      | none => rw [hj] at hu; simp at hu
      | some y =>
        rw [hj] at hu
        simp at hu
        have hlt : j < zs.length := (List.getElem?_eq_some_iff.1 hj).1
        have := hc x rfl j (by omega)
        rw [List.getD_eq_getElem?_getD, hj] at this
        rw [← hu]
        exact this)
    simp only [List.length_map, hz] at h
    exact run_bytesToString W x len cap zs h
theorem Bytes.conv {W : World} {a : Option Addr} {len cap : Nat} {zs : List Int} (H : Bytes W a len cap zs) :
    Sem.run Try.prog (convert 33 9 (.slice a len cap)) W = .ok (.string (str zs)) W := conv_run W a len cap zs H.1 H.2.2.1 H.2.2.2.2
theorem Row.conv {W : World} {base g n cap : Nat} {xs : List Int} (h : Row W base g n cap xs) :
    Sem.run Try.prog (convert 33 9 (.slice (some ⟨g, 0, none⟩) n cap)) W = .ok (.string (str xs)) W :=
  conv_run W _ n cap xs h.len (fun e => by simp at e) (fun x hx i hi => by simp at hx; subst hx; rw [addr_add, Nat.zero_add]; exact h.cell i hi)
theorem bytes_kept {W W' : World} {a : Option Addr} {len cap : Nat} {zs : List Int} (H : Bytes W a len cap zs) (hb : Below W.heap.size W W') : Bytes W' a len cap zs :=
  ⟨H.1, H.2.1, H.2.2.1, H.2.2.2.1, fun x hx i hi => cell_later hb (H.2.2.2.2 x hx i hi)⟩
theorem bytes_take {W : World} {a : Option Addr} {len cap : Nat} {zs : List Int} (H : Bytes W a len cap zs) (m : Nat) (hm : m ≤ len) (ha : a = none → m = 0) : Bytes W a m cap (zs.take m) := by
  refine ⟨by rw [List.length_take, H.1]; omega, by have := H.2.1; omega, fun e => ⟨ha e, (H.2.2.1 e).2⟩, fun y hy => H.2.2.2.1 y (List.mem_of_mem_take hy), ?_⟩
  intro x hx i hi
  rw [H.2.2.2.2 x hx i (by omega)]
  simp [List.getD_eq_getElem?_getD, hi]

/-! ### Bytes as a filter's -/
theorem map_bi : ∀ (zs : List Int), (∀ y ∈ zs, 0 ≤ y ∧ y ≤ 255) → zs = (zs.map (BitVec.ofInt 8)).map bi
  | [], _ => rfl
  | y :: t, h => by
    have h1 := h y (by simp)
    have h2 := map_bi t (fun x hx => h x (by simp [hx]))
    have h3 : bi (BitVec.ofInt 8 y) = y := by unfold bi; rw [BitVec.toNat_ofInt]; omega
    rw [List.map_cons, List.map_cons, h3, ← h2]
theorem bi_getD (f : List B8) (i : Nat) : (f.map bi).getD i 0 = bi (f.getD i 0#8) := by
  rw [List.getD_eq_getElem?_getD, List.getD_eq_getElem?_getD, List.getElem?_map]
  cases f[i]? <;> rfl
/-- Bytes that can be read, as a filter's. -/
def Bts (w : World) (a : Option Addr) (len cap : Nat) (f : List B8) : Prop := Bytes w a len cap (f.map bi)
theorem Bts.len {w : World} {a : Option Addr} {len cap : Nat} {f : List B8} (h : Bts w a len cap f) : f.length = len := by have := h.1; simpa using this
theorem Bts.cell {w : World} {a : Option Addr} {len cap : Nat} {f : List B8} (h : Bts w a len cap f) (i : Nat) (hi : i < len) : ∃ b off, a = some ⟨b, off, none⟩ ∧ w.cell? ⟨b, off + i, none⟩ = some (.int .u8 (bi (f.getD i 0#8))) := by
  cases a with
  | none => have := (h.2.2.1 rfl).1; omega
  | some x =>
    obtain ⟨b, off, sp⟩ := x
    have hc := h.2.2.2.2 _ rfl i hi
    have hsp : sp = none := by
      have h0 := h.2.2.2.2 _ rfl 0 (by omega)
      simpa [Addr.add] using World.cell?_spot h0
    subst hsp
    rw [addr_add, bi_getD] at hc
    exact ⟨b, off, rfl, hc⟩
theorem Bts.later {w w' : World} {a : Option Addr} {len cap : Nat} {f : List B8} (h : Bts w a len cap f) (b : Below w.heap.size w w') : Bts w' a len cap f := bytes_kept h b
theorem fb_bts {w : World} {g : Nat} {f : List B8} (h : Fb w g f) (n : Nat) (hn : f.length = n) : Bts w (some ⟨g, 0, none⟩) n n f := by
  refine ⟨by simpa using hn, Nat.le_refl _, fun e => by simp at e, ?_, ?_⟩
  · intro y hy
    obtain ⟨x, _, rfl⟩ := List.mem_map.1 hy
    exact bi_bd x
  · intro x hx i hi
    simp at hx
    subst hx
    rw [addr_add, Nat.zero_add, bi_getD]
    exact h.cell i (by omega)
end Go.Proofs.Ytempagacpfejdaa.By
