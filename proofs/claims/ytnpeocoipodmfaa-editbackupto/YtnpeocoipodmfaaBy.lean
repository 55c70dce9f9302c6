/- Bytes that can be read, rows of the call's own, bytes as texts; numbers of eight bytes laid behind bytes and read (contracts of the codec's calls). -/
import Derived.Test.YtnpeocoipodmfaaRows
import Derived.WalkKit
import Derived.ProofKit
import Derived.OpenShut
import Derived.WalkSpells
import Derived.WalkLawsBesides
import Derived.Deep.AppendSrc
import Derived.Test.YtnpeocoipodmfaaFx
namespace Go.Proofs.Ytnpeocoipodmfaa.By
open Go.ChangeShapes Go.WideShapes Go.ChangeAt Go.RowKit
set_option linter.unusedVariables false

theorem ret_int {k : IntKind} {a b : Int} (h : a = b) : Ending.returned (.int k a) = .returned (.int k b) := by rw [h]
theorem ret3 {k1 k2 k3 : IntKind} {a b c : Int} {t : Int × Int × Int} (h : (a, b, c) = t) : Ending.returned (.tuple #[.int k1 a, .int k2 b, .int k3 c]) = .returned (.tuple #[.int k1 t.1, .int k2 t.2.1, .int k3 t.2.2]) := by rw [← h]

theorem addr_add (b off n : Nat) : (⟨b, off, none⟩ : Addr).add n = ⟨b, off + n, none⟩ := by
  unfold Addr.add; split <;> simp_all

/-- A slice of bytes that can be read: its bytes are 'zs'. -/
def Bytes (w : World) (a : Option Addr) (len cap : Nat) (zs : List Int) : Prop :=
  zs.length = len ∧ len ≤ cap ∧ (a = none → len = 0 ∧ cap = 0) ∧ (∀ y ∈ zs, 0 ≤ y ∧ y ≤ 255) ∧ (∀ x, a = some x → ∀ i, i < len → w.cell? (x.add i) = some (.int .u8 (zs.getD i 0)))

theorem info5 : (Try.prog.info? 5).map (fun i => (i.zero, i.size, i.bytes)) = some (some (.int .u8 0), 1, 1) := by kernel_rfl

theorem grown_trans {a b c : World} {row : Option Nat} (h : a.grownBy b row) (k : b.grownBy c row) : a.grownBy c row :=
  ⟨k.os.trans h.os, k.tape.trans h.tape, k.output.trans h.output, Nat.le_trans h.size k.size, fun j hj hne => (k.block j (Nat.lt_of_lt_of_le hj h.size) hne).trans (h.block j hj hne)⟩
theorem grown_none {a b : World} {row : Option Nat} (h : a.grownBy b none) : a.grownBy b row :=
  ⟨h.os, h.tape, h.output, h.size, fun j hj hne => h.block j hj (by simp)⟩
theorem grown_below {a b : World} {row : Option Nat} (h : a.grownBy b row) (hr : ∀ k, row = some k → a.heap.size ≤ k) : Below a.heap.size a b :=
  (Below.refl _ _).grown h (Nat.le_refl _) hr

/-- A row of bytes of the call's own: block g, n bytes, room for cap. -/
def Row (w : World) (base g n cap : Nat) (xs : List Int) : Prop :=
  w.ownsRow base 5 1 (.slice (some ⟨g, 0, none⟩) n cap) n (xs.map (Value.int .u8))

theorem one_cell (xs : List Int) : ∀ u ∈ xs.map (Value.int .u8), u.oneCell' = true := by
  intro u hu
  obtain ⟨x, _, rfl⟩ := List.mem_map.1 hu
  rfl

theorem Row.len {w : World} {base g n cap : Nat} {xs : List Int} (h : Row w base g n cap xs) : xs.length = n := by
  have := h.1; simpa using this
theorem Row.cell {w : World} {base g n cap : Nat} {xs : List Int} (h : Row w base g n cap xs) (i : Nat) (hi : i < n) : w.cell? ⟨g, i, none⟩ = some (.int .u8 (xs.getD i 0)) := by
  have hl := h.len
  rw [World.ownsRow.cellAt h i (by omega), List.getElem?_map, List.getD_eq_getElem?_getD, List.getElem?_eq_getElem (by omega)]
  rfl
theorem Row.bytes {w : World} {base g n cap : Nat} {xs : List Int} (h : Row w base g n cap xs) (hb : ∀ y ∈ xs, 0 ≤ y ∧ y ≤ 255) : Bytes w (some ⟨g, 0, none⟩) n cap xs := by
  refine ⟨h.len, ?_, fun e => by simp at e, hb, ?_⟩
  · rcases h.2 with ⟨e, _⟩ | ⟨g', cap', cur, e, _, _, hn, _⟩
    · simp at e
    · simp at e; omega
  · intro x hx i hi
    simp at hx
    subst hx
    rw [addr_add, Nat.zero_add]
    exact h.cell i hi
theorem Row.lt {w : World} {base g n cap : Nat} {xs : List Int} (h : Row w base g n cap xs) : base ≤ g ∧ g < w.heap.size := World.ownsRow.lt h g rfl
theorem Row.alloc {w : World} {base g n cap : Nat} {xs : List Int} (h : Row w base g n cap xs) (o : Obj) : Row (w.alloc o) base g n cap xs := World.ownsRow.alloc h o
theorem Row.kept {w w' : World} {base g n cap : Nat} {xs : List Int} {row : Option Nat} (h : Row w base g n cap xs) (k : w.grownBy w' row) (hne : row ≠ some g) : Row w' base g n cap xs :=
  World.ownsRow.kept h k (.inr (by simpa [Value.ownBlock] using Ne.symm hne))

theorem bytes_later {w w' : World} {a : Option Addr} {len cap : Nat} {zs : List Int} (H : Bytes w a len cap zs) (hb : Below w.heap.size w w') :
    (a = none → len = 0 ∧ cap = 0) ∧ ∀ ad, a = some ad → ∀ j u, (zs.map (Value.int .u8))[j]? = some u → w'.cell? (ad.add j) = some u := by
  refine ⟨H.2.2.1, ?_⟩
  intro ad had j u hu
  rw [List.getElem?_map] at hu
  cases hj : zs[j]? with
  | none => rw [hj] at hu; simp at hu
  | some y =>
    rw [hj] at hu
    simp at hu
    have hlt : j < zs.length := (List.getElem?_eq_some_iff.1 hj).1
    have := H.2.2.2.2 ad had j (by rw [← H.1]; exact hlt)
    rw [List.getD_eq_getElem?_getD, hj] at this
    rw [← hu]
    exact cell_later hb this

set_option maxHeartbeats 1000000 in
theorem room_any (a : Option Addr) (len cap more : Nat) (zs : List Int) (w : World) (H : Bytes w a len cap zs) (hm : len + more ≤ 281474976710656) :
    Calls Try.prog 49 #[.slice a len cap, .int .i64 more] w fun e w' => e = .returned (.slice (some ⟨w.heap.size, 0, none⟩) len (len + more)) ∧ Row w' w.heap.size w.heap.size len (len + more) zs ∧ Below w.heap.size w w' := by
  obtain ⟨i0, hi, hz0, hz1, hz2⟩ := info_parts info5
  have HH : Hid (Bytes w a len cap zs) := H
  have hlen : (zs.map (Value.int .u8)).length = len * 1 := by simp; exact H.1
  clear H
  go_enter Try.func49, Try.ntmps49
  go_wp2_with (at_make; refine wpList_make_own _ rfl _ _ 27 rfl w.heap.size 5 i0 (.int .u8 0) 1 Try.underlying27 hi hz0 hz1 .i64 .i64 _ (len + more) rfl rfl (by omega) (by rw [hz2]; omega) (by unfold maxLen; omega) (Nat.le_refl _) ?_)
  intro w1 own1 g1
  have b1 : Below w.heap.size w w1 := grown_below g1 (by simp)
  have BL := bytes_later HH.out b1
  go_wp2_with (at_builtin; refine wpList_append_fits_any _ rfl _ _ 27 rfl w.heap.size 5 i0 1 Try.underlying27 hi hz1 w.heap.size 0 (len + more) [] rfl own1 a len cap (zs.map (Value.int .u8)) rfl hlen BL.1 BL.2 (one_cell zs) (by omega) ?_)
  intro w2 own2 g2
  have own3 : Row w2 w.heap.size w.heap.size len (len + more) zs := by simpa [Row] using own2
  have b2 : Below w.heap.size w w2 := b1.grown g2 b1.size (by intro k hk; simp at hk; omega)
  clear own1 g1 BL b1 g2 own2
  go_wp2
  go_ret
  exact ⟨by simp, own3, b2⟩

/-! ### Bytes as a string -/
def str (ns : List Int) : ByteArray := ns.foldl (fun r n => r.push (UInt8.ofNat n.toNat)) ByteArray.empty
theorem nil_bytes (w : World) : Bytes w none 0 0 [] := ⟨rfl, Nat.le_refl _, fun _ => ⟨rfl, rfl⟩, by simp, by simp⟩
theorem conv_run (W : World) (a : Option Addr) (len cap : Nat) (zs : List Int) (hz : zs.length = len) (hn : a = none → len = 0 ∧ cap = 0)
    (hc : ∀ x, a = some x → ∀ i, i < len → W.cell? (x.add i) = some (.int .u8 (zs.getD i 0))) :
    Sem.run Try.prog (convert 27 9 (.slice a len cap)) W = .ok (.string (str zs)) W := by
  rw [run_convert_bytes_string W 27 9 5 a len cap Try.underlying27 Try.underlying5 Try.underlying9]
  cases a with
  | none =>
    obtain ⟨rfl, rfl⟩ := hn rfl
    have : zs = [] := List.eq_nil_of_length_eq_zero hz
    subst this
    rfl
  | some x =>
    have h := run_loadCells_list (P := Try.prog) (w := W) x (zs.map (Value.int .u8)) (by
      intro j u hu
      rw [List.getElem?_map] at hu
      cases hj : zs[j]? with
      | none => rw [hj] at hu; simp at hu
      | some y =>
        rw [hj] at hu
        simp at hu
        have hlt : j < zs.length := (List.getElem?_eq_some_iff.1 hj).1
        have := hc x rfl j (by omega)
        rw [List.getD_eq_getElem?_getD, hj] at this
        rw [← hu]
        exact this)
    simp only [List.length_map, hz] at h
    exact run_bytesToString W x len cap zs h
theorem Bytes.conv {W : World} {a : Option Addr} {len cap : Nat} {zs : List Int} (H : Bytes W a len cap zs) :
    Sem.run Try.prog (convert 27 9 (.slice a len cap)) W = .ok (.string (str zs)) W := conv_run W a len cap zs H.1 H.2.2.1 H.2.2.2.2
theorem Row.conv {W : World} {base g n cap : Nat} {xs : List Int} (h : Row W base g n cap xs) :
    Sem.run Try.prog (convert 27 9 (.slice (some ⟨g, 0, none⟩) n cap)) W = .ok (.string (str xs)) W :=
  conv_run W _ n cap xs h.len (fun e => by simp at e) (fun x hx i hi => by simp at hx; subst hx; rw [addr_add, Nat.zero_add]; exact h.cell i hi)
theorem bytes_kept {W W' : World} {a : Option Addr} {len cap : Nat} {zs : List Int} (H : Bytes W a len cap zs) (hb : Below W.heap.size W W') : Bytes W' a len cap zs :=
  ⟨H.1, H.2.1, H.2.2.1, H.2.2.2.1, fun x hx i hi => cell_later hb (H.2.2.2.2 x hx i hi)⟩
theorem bytes_take {W : World} {a : Option Addr} {len cap : Nat} {zs : List Int} (H : Bytes W a len cap zs) (m : Nat) (hm : m ≤ len) (ha : a = none → m = 0) : Bytes W a m cap (zs.take m) := by
  refine ⟨by rw [List.length_take, H.1]; omega, by have := H.2.1; omega, fun e => ⟨ha e, (H.2.2.1 e).2⟩, fun y hy => H.2.2.2.1 y (List.mem_of_mem_take hy), ?_⟩
  intro x hx i hi
  rw [H.2.2.2.2 x hx i (by omega)]
  simp [List.getD_eq_getElem?_getD, hi]
def tx (s : ByteArray) : List Int := s.data.toList.map fun b => (b.toNat : Int)
theorem tx_cells (s : ByteArray) : byteCells s = (tx s).map (Value.int .u8) := by
  unfold byteCells tx; simp
theorem tx_len (s : ByteArray) : (tx s).length = s.size := by
  unfold tx; simp
theorem tx_bytes (s : ByteArray) : ∀ y ∈ tx s, 0 ≤ y ∧ y ≤ 255 := by
  intro y hy
  obtain ⟨b, _, rfl⟩ := List.mem_map.1 hy
  have := b.toNat_lt
  omega

theorem full {w : World} {base g n cap : Nat} {xs : List Value} (h : w.ownsRow base 5 1 (.slice (some ⟨g, 0, none⟩) n cap) n xs) :
    ∃ ys, w.ownsRow base 5 1 (.slice (some ⟨g, 0, none⟩) cap cap) cap ys ∧ ys.take n = xs ∧ n ≤ cap := by
  rcases h.2 with ⟨e, _⟩ | ⟨g', cap', cur, e, hb, hg, hn, hm, hs, ht⟩
  · simp at e
  · simp only [Value.slice.injEq, Option.some.injEq, Addr.mk.injEq, and_true, true_and] at e
    obtain ⟨rfl, rfl⟩ := e
    refine ⟨cur.toList, ⟨by simpa using hs, .inr ⟨g, cap, cur, rfl, hb, hg, Nat.le_refl _, hm, hs, ?_⟩⟩, by simpa using ht, hn⟩
    exact List.take_of_length_le (by rw [Array.length_toList]; omega)
theorem cut {w : World} {base g n cap : Nat} {ys : List Value} (h : w.ownsRow base 5 1 (.slice (some ⟨g, 0, none⟩) cap cap) cap ys) (hn : n ≤ cap) :
    w.ownsRow base 5 1 (.slice (some ⟨g, 0, none⟩) n cap) n (ys.take n) := by
  rcases h.2 with ⟨e, _⟩ | ⟨g', cap', cur, e, hb, hg, _, hm, hs, ht⟩
  · simp at e
  · simp only [Value.slice.injEq, Option.some.injEq, Addr.mk.injEq, and_true, true_and] at e
    obtain ⟨rfl, rfl⟩ := e
    have hy : cur.toList = ys := by rw [← ht]; exact (List.take_of_length_le (by rw [Array.length_toList]; omega)).symm
    refine ⟨by rw [← hy]; simp; omega, .inr ⟨g, cap, cur, rfl, hb, hg, hn, hm, hs, by rw [← hy]; simp⟩⟩
theorem stored_many {base g cap : Nat} : ∀ (vs : List Value) (o : Nat) (ys : List Value) (w : World), w.ownsRow base 5 1 (.slice (some ⟨g, 0, none⟩) cap cap) cap ys → o + vs.length ≤ cap →
    (w.setCells g o vs).ownsRow base 5 1 (.slice (some ⟨g, 0, none⟩) cap cap) cap (ys.take o ++ (vs ++ ys.drop (o + vs.length))) ∧ w.grownBy (w.setCells g o vs) (some g) := by
  intro vs
  induction vs with
  | nil => intro o ys w h ho; simp [World.setCells]; exact ⟨h, World.grownBy.refl _ _⟩
  | cons v r ih =>
    intro o ys w h ho
    have hl : ys.length = cap := by have := h.1; omega
    simp only [List.length_cons] at ho
    have st := World.ownsRow.stored h o v
    have := ih (o + 1) (ys.set o v) _ st.1 (by omega)
    refine ⟨?_, grown_trans st.2 this.2⟩
    have e : (ys.set o v).take (o + 1) ++ (r ++ (ys.set o v).drop (o + 1 + r.length)) = ys.take o ++ (v :: r ++ ys.drop (o + (v :: r).length)) := by
      rw [List.take_succ_eq_append_getElem (by simp; omega), List.getElem_set_self, List.take_set_of_le (by omega), List.drop_set_of_lt (by omega)]
      simp [Nat.add_assoc, Nat.add_comm 1]
    rw [← e]
    exact this.1

/-! ### Bytes as strings, joined -/
theorem str_size (zs : List Int) : (str zs).size = zs.length := by
  have h : ∀ (zs : List Int) (r : ByteArray), (zs.foldl (fun r n => r.push (UInt8.ofNat n.toNat)) r).size = r.size + zs.length := by
    intro zs
    induction zs with
    | nil => intro r; simp
    | cons z t ih => intro r; simp only [List.foldl_cons, ih, List.length_cons, ByteArray.size_push]; omega
  simpa [str] using h zs ByteArray.empty
theorem str_append (xs ys : List Int) : str xs ++ str ys = str (xs ++ ys) := by
  have h : ∀ (zs : List Int) (r : ByteArray), (zs.foldl (fun r n => r.push (UInt8.ofNat n.toNat)) r) = r ++ str zs := by
    intro zs
    induction zs with
    | nil => intro r; simp [str]
    | cons z t ih =>
      intro r
      simp only [List.foldl_cons, ih]
      have e : str (z :: t) = (ByteArray.empty.push (UInt8.ofNat z.toNat)) ++ str t := by
        unfold str; simp only [List.foldl_cons]; exact ih _
      rw [e, ← ByteArray.append_assoc]
      congr 1
      apply ByteArray.ext
      simp
  unfold str
  rw [List.foldl_append]
  exact (h ys _).symm
theorem row_below {w w' : World} {base g n cap : Nat} {xs : List Int} (R : Row w base g n cap xs) (b : Below w.heap.size w w') : Row w' base g n cap xs := by
  have hlt := R.lt
  refine World.ownsRow.kept (row := none) R ⟨b.os, b.tape, b.output, b.size, fun k hk _ => b.block k hk⟩ (.inr (by simp [Value.ownBlock]))
/-- The bytes of a number, the lowest first. -/
def lb : Nat → Int → List Int
  | 0, _ => []
  | n + 1, v => v % 256 :: lb n (v / 256)
theorem lb_len (n : Nat) : ∀ v, (lb n v).length = n := by
  induction n with
  | zero => intro v; rfl
  | succ n ih => intro v; simp [lb, ih]
theorem lb_bytes (n : Nat) : ∀ v, ∀ y ∈ lb n v, 0 ≤ y ∧ y ≤ 255 := by
  induction n with
  | zero => intro v y hy; simp [lb] at hy
  | succ n ih =>
    intro v y hy
    simp only [lb, List.mem_cons] at hy
    rcases hy with rfl | h
    · omega
    · exact ih _ y h

/-- Behind an append that may have grown a row: which value it is, which row. -/
theorem shape {w : World} {base n : Nat} {v : Value} {xs : List Int} (h : w.ownsRow base 5 1 v n (xs.map (Value.int .u8))) (hn : 0 < n) : ∃ g c, v = .slice (some ⟨g, 0, none⟩) n c ∧ Row w base g n c xs := by
  rcases h.2 with ⟨_, e⟩ | ⟨g, c, _, e, _⟩
  · omega
  · subst e; exact ⟨g, c, rfl, h⟩
theorem below_own {B : Nat} {a w w' : World} {v : Value} {n : Nat} {xs : List Value} (h : Below B a w) (ho : w.ownsRow B 5 1 v n xs) (hg : w.grownBy w' v.ownBlock) (hB : B ≤ w.heap.size) : Below B a w' :=
  h.grown hg hB (fun k hk => (World.ownsRow.lt ho k hk).1)
theorem lb_get (n : Nat) : ∀ (k : Nat) (v : Int), k < n → (lb n v)[k]? = some (v / 256 ^ k % 256) := by
  induction n with
  | zero => intro k v h; omega
  | succ n ih =>
    intro k v h
    cases k with
    | zero => simp [lb]
    | succ k =>
      simp only [lb, List.getElem?_cons_succ]
      rw [ih k (v / 256) (by omega), Int.pow_succ, Int.mul_comm, Int.ediv_ediv_of_nonneg (by omega)]
theorem lb_take (n k : Nat) (v : Int) (h : k < n) : (lb n v).take (k + 1) = (lb n v).take k ++ [v / 256 ^ k % 256] := by
  have hl : k < (lb n v).length := by rw [lb_len]; exact h
  rw [List.take_succ_eq_append_getElem hl]
  have := lb_get n k v h
  rw [List.getElem?_eq_getElem hl] at this
  simp at this
  rw [this]
end Go.Proofs.Ytnpeocoipodmfaa.By
