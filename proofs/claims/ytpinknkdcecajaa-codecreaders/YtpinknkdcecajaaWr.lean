/- Contracts of the calls that lay a number behind bytes: what they return is a new row of memory that holds the old bytes and the number's, and nothing else has turned. -/
import Derived.Test.YtpinknkdcecajaaRd
namespace Go.Proofs.Ytpinknkdcecajaa.Wr
open Go.ChangeShapes Go.WideShapes Go.ChangeAt Go.RowKit
open Go.Proofs.Ytpinknkdcecajaa.Rd (Bytes ret_int addr_add)
set_option linter.unusedVariables false

theorem info5 : (Try.prog.info? 5).map (fun i => (i.zero, i.size, i.bytes)) = some (some (.int .u8 0), 1, 1) := by kernel_rfl

theorem grown_trans {a b c : World} {row : Option Nat} (h : a.grownBy b row) (k : b.grownBy c row) : a.grownBy c row :=
  ⟨k.os.trans h.os, k.tape.trans h.tape, k.output.trans h.output, Nat.le_trans h.size k.size, fun j hj hne => (k.block j (Nat.lt_of_lt_of_le hj h.size) hne).trans (h.block j hj hne)⟩
theorem grown_none {a b : World} {row : Option Nat} (h : a.grownBy b none) : a.grownBy b row :=
  ⟨h.os, h.tape, h.output, h.size, fun j hj hne => h.block j hj (by simp)⟩
theorem grown_below {a b : World} {row : Option Nat} (h : a.grownBy b row) (hr : ∀ k, row = some k → a.heap.size ≤ k) : Below a.heap.size a b :=
  (Below.refl _ _).grown h (Nat.le_refl _) hr

/-- A row of bytes of the call's own: block g, n bytes, room for cap. -/
def Row (w : World) (base g n cap : Nat) (xs : List Int) : Prop :=
  w.ownsRow base 5 1 (.slice (some ⟨g, 0, none⟩) n cap) n (xs.map (Value.int .u8))

theorem one_cell (xs : List Int) : ∀ u ∈ xs.map (Value.int .u8), u.oneCell' = true := by
  intro u hu
  obtain ⟨x, _, rfl⟩ := List.mem_map.1 hu
  rfl

theorem Row.len {w : World} {base g n cap : Nat} {xs : List Int} (h : Row w base g n cap xs) : xs.length = n := by
  have := h.1; simpa using this
theorem Row.cell {w : World} {base g n cap : Nat} {xs : List Int} (h : Row w base g n cap xs) (i : Nat) (hi : i < n) : w.cell? ⟨g, i, none⟩ = some (.int .u8 (xs.getD i 0)) := by
  have hl := h.len
  rw [World.ownsRow.cellAt h i (by omega), List.getElem?_map, List.getD_eq_getElem?_getD, List.getElem?_eq_getElem (by omega)]
  rfl
theorem Row.bytes {w : World} {base g n cap : Nat} {xs : List Int} (h : Row w base g n cap xs) (hb : ∀ y ∈ xs, 0 ≤ y ∧ y ≤ 255) : Bytes w (some ⟨g, 0, none⟩) n cap xs := by
  refine ⟨h.len, ?_, fun e => by simp at e, hb, ?_⟩
  · rcases h.2 with ⟨e, _⟩ | ⟨g', cap', cur, e, _, _, hn, _⟩
    · simp at e
    · simp at e; omega
  · intro x hx i hi
    simp at hx
    subst hx
    rw [addr_add, Nat.zero_add]
    exact h.cell i hi
theorem Row.lt {w : World} {base g n cap : Nat} {xs : List Int} (h : Row w base g n cap xs) : base ≤ g ∧ g < w.heap.size := World.ownsRow.lt h g rfl
theorem Row.alloc {w : World} {base g n cap : Nat} {xs : List Int} (h : Row w base g n cap xs) (o : Obj) : Row (w.alloc o) base g n cap xs := World.ownsRow.alloc h o
theorem Row.kept {w w' : World} {base g n cap : Nat} {xs : List Int} {row : Option Nat} (h : Row w base g n cap xs) (k : w.grownBy w' row) (hne : row ≠ some g) : Row w' base g n cap xs :=
  World.ownsRow.kept h k (.inr (by simpa [Value.ownBlock] using Ne.symm hne))

theorem bytes_later {w w' : World} {a : Option Addr} {len cap : Nat} {zs : List Int} (H : Bytes w a len cap zs) (hb : Below w.heap.size w w') :
    (a = none → len = 0 ∧ cap = 0) ∧ ∀ ad, a = some ad → ∀ j u, (zs.map (Value.int .u8))[j]? = some u → w'.cell? (ad.add j) = some u := by
  refine ⟨H.2.2.1, ?_⟩
  intro ad had j u hu
  rw [List.getElem?_map] at hu
  cases hj : zs[j]? with
  | none => rw [hj] at hu; simp at hu
  | some y =>
    rw [hj] at hu
    simp at hu
    have hlt : j < zs.length := (List.getElem?_eq_some_iff.1 hj).1
    have := H.2.2.2.2 ad had j (by rw [← H.1]; exact hlt)
    rw [List.getD_eq_getElem?_getD, hj] at this
    rw [← hu]
    exact cell_later hb this

set_option maxHeartbeats 1000000 in
theorem room_any (a : Option Addr) (len cap more : Nat) (zs : List Int) (w : World) (H : Bytes w a len cap zs) (hm : len + more ≤ 281474976710656) :
    Calls Try.prog 47 #[.slice a len cap, .int .i64 more] w fun e w' => e = .returned (.slice (some ⟨w.heap.size, 0, none⟩) len (len + more)) ∧ Row w' w.heap.size w.heap.size len (len + more) zs ∧ Below w.heap.size w w' := by
  obtain ⟨i0, hi, hz0, hz1, hz2⟩ := info_parts info5
  have HH : Hid (Bytes w a len cap zs) := H
  have hlen : (zs.map (Value.int .u8)).length = len * 1 := by simp; exact H.1
  clear H
  go_enter Try.func47, Try.ntmps47
  go_wp2_with (at_make; refine wpList_make_own _ rfl _ _ 22 rfl w.heap.size 5 i0 (.int .u8 0) 1 Try.underlying22 hi hz0 hz1 .i64 .i64 _ (len + more) rfl rfl (by omega) (by rw [hz2]; omega) (by unfold maxLen; omega) (Nat.le_refl _) ?_)
  intro w1 own1 g1
  have b1 : Below w.heap.size w w1 := grown_below g1 (by simp)
  have BL := bytes_later HH.out b1
  go_wp2_with (at_builtin; refine wpList_append_fits_any _ rfl _ _ 22 rfl w.heap.size 5 i0 1 Try.underlying22 hi hz1 w.heap.size 0 (len + more) [] rfl own1 a len cap (zs.map (Value.int .u8)) rfl hlen BL.1 BL.2 (one_cell zs) (by omega) ?_)
  intro w2 own2 g2
  have own3 : Row w2 w.heap.size w.heap.size len (len + more) zs := by simpa [Row] using own2
  have b2 : Below w.heap.size w w2 := b1.grown g2 b1.size (by intro k hk; simp at hk; omega)
  clear own1 g1 BL b1 g2 own2
  go_wp2
  go_ret
  exact ⟨by simp, own3, b2⟩

theorem or128 (u : Int) (h : 0 ≤ u) : bits .or .u8 (u % 256) 128 = u % 128 + 128 := by
  obtain ⟨n, hn⟩ : ∃ n : Nat, u = (n : Int) := ⟨u.toNat, by omega⟩
  subst hn
  have h1 : (BitVec.ofInt 8 ((n : Int) % 256)).toNat = n % 256 := by
    rw [show ((n : Int) % 256) = ((n % 256 : Nat) : Int) by omega, BitVec.ofInt_natCast, BitVec.toNat_ofNat]; omega
  show IntKind.u8.wrap ((BitVec.ofInt 8 ((n : Int) % 256) ||| BitVec.ofInt 8 128).toNat : Int) = _
  rw [BitVec.toNat_or, h1, show (BitVec.ofInt 8 128).toNat = 128 from rfl]
  have e : ∀ m : Fin 256, m.val ||| 128 = m.val % 128 + 128 := by decide +kernel
  rw [show n % 256 ||| 128 = (n % 256) % 128 + 128 from e ⟨n % 256, by omega⟩]
  simp only [IntKind.wrap, IntKind.signed, IntKind.bits, Bool.false_and, Bool.false_eq_true, if_false]
  omega

set_option maxHeartbeats 1000000 in
theorem appv_any (base g n cap : Nat) (xs : List Int) (v : Int) (w : World) (R : Row w base g n cap xs) (hv : 0 ≤ v ∧ v ≤ 18446744073709551615) (hroom : n + (Vb.vb v).length ≤ cap) :
    Calls Try.prog 46 #[.slice (some ⟨g, 0, none⟩) n cap, .int .u64 v] w fun e w' => e = .returned (.slice (some ⟨g, 0, none⟩) (n + (Vb.vb v).length) cap) ∧ Row w' base g (n + (Vb.vb v).length) cap (xs ++ Vb.vb v) ∧ w.grownBy w' (some g) := by
  obtain ⟨i0, hi, hz0, hz1, hz2⟩ := info_parts info5
  obtain ⟨V, hV⟩ : ∃ V, V = Vb.vb v := ⟨_, rfl⟩
  rw [← hV] at hroom ⊢
  have HV : Hid (V = Vb.vb v) := hV
  have HR : Hid (Row w base g n cap xs) := R
  clear hV R
  go_enter Try.func46, Try.ntmps46
  go_wp2
  go_loopw [0, 1] (fun b x wr => ∃ k j : Nat, ∃ u : Int, ∃ acc : List Int, b = .slice (some ⟨g, 0, none⟩) (n + j) cap ∧ x = .int .u64 u ∧ 0 ≤ u ∧ u ≤ 18446744073709551615 ∧ Hid (u < 2 * 128 ^ k) ∧ Hid (acc.length = j) ∧ Hid (acc ++ Vb.vbF k u = V) ∧ Hid (Row wr base g (n + j) cap (xs ++ acc)) ∧ Hid (w.grownBy wr (some g))) (fun _ x _ => (intOf x).toNat)
  case atStart => exact ⟨9, 0, v, [], rfl, rfl, hv.1, hv.2, by show _ < _; rw [Vb.two9]; omega, rfl, by show _ = _; rw [HV.out]; rfl, by show Row _ _ _ _ _ _; simpa using HR.out, World.grownBy.refl _ _⟩
  case round =>
    obtain ⟨k, j, u, acc, rfl, rfl, hu0, hu1, hk, hj, hacc, hrow, hgr⟩ := hrel
    by_cases h : 128 ≤ u
    · obtain ⟨k', hk'⟩ : ∃ k', k = k' + 1 := by
        cases k with
        | zero => have := hk.out; simp at this; omega
        | succ k => exact ⟨k, rfl⟩
      subst hk'
      have e1 : Hid (acc ++ (u % 128 + 128) :: Vb.vbF k' (u / 128) = V) := by
        have := hacc.out
        rw [Vb.vbF_step _ _ h] at this
        exact this
      have hjl : j < V.length := by have := congrArg List.length e1.out; simp at this; have := hj.out; omega
      clear hacc
      have hor : Hid (bits .or .u8 (u % 256) 128 = u % 128 + 128) := or128 u hu0
      have hk2 : Hid (u / 128 < 2 * 128 ^ k') := by show _ < _; have := hk.out; rw [Int.pow_succ] at this; omega
      clear hk
      go_wp2_with (at_builtin; refine wpList_append_fits _ rfl _ _ 22 rfl base 5 i0 1 Try.underlying22 hi hz1 g (n + j) cap ((xs ++ acc).map (Value.int .u8)) rfl (World.ownsRow.alloc hrow.out _) ⟨wr.heap.size, 0, none⟩ 1 1 [.int .u8 (bits .or .u8 (u % 256) 128)] rfl rfl ?c1 ?c2 ?c3 ?_)
      case c1 => exact cell_one_new _ _ _
      case c2 => intro u hu; simp at hu; subst hu; rfl
      case c3 => omega
      intro w1 own1 g1
      have R1 : Hid (Row w1 base g (n + (j + 1)) cap (xs ++ (acc ++ [u % 128 + 128]))) := by
        show Row _ _ _ _ _ _
        rw [hor.out] at own1
        unfold Row
        simpa [Nat.add_assoc] using own1
      have G1 : Hid (w.grownBy w1 (some g)) := grown_trans hgr.out (grown_trans (World.grownBy_alloc _ _ _) g1)
      clear own1 g1 hrow hgr hor
      go_wp2
      go_roundw
      case rel => exact ⟨k', j + 1, u / 128, acc ++ [u % 128 + 128], by rw [Nat.add_assoc], by go_num, by omega, by omega, hk2, by show _ = _; have := hj.out; simp; omega, by show _ = _; rw [← e1.out]; simp, R1, G1⟩
      case measure => simp [intOf]; omega
    · have e1 : Hid (acc ++ [u] = V) := by
        have := hacc.out
        rw [Vb.vbF_small _ _ (by omega)] at this
        exact this
      have hjl : j < V.length := by have := congrArg List.length e1.out; simp at this; have := hj.out; omega
      have hjv : Hid (n + j + 1 = n + V.length) := by show _ = _; have := congrArg List.length e1.out; simp at this; have := hj.out; omega
      have hm : Hid (u % 256 = u) := by show _ = _; omega
      clear hacc hk
      go_wp2_with (at_builtin; refine wpList_append_fits _ rfl _ _ 22 rfl base 5 i0 1 Try.underlying22 hi hz1 g (n + j) cap ((xs ++ acc).map (Value.int .u8)) rfl (World.ownsRow.alloc hrow.out _) ⟨wr.heap.size, 0, none⟩ 1 1 [.int .u8 u] rfl rfl ?d1 ?d2 ?d3 ?_)
      case d2 => rfl
      case d3 => omega
      intro w1 own1 g1
      have R1 : Hid (Row w1 base g (n + V.length) cap (xs ++ V)) := by
        show Row _ _ _ _ _ _
        rw [← hjv.out, ← e1.out]
        unfold Row
        simpa [Nat.add_assoc] using own1
      have G1 : Hid (w.grownBy w1 (some g)) := grown_trans hgr.out (grown_trans (World.grownBy_alloc _ _ _) g1)
      clear own1 g1 hrow hgr
      go_wp2
      go_ret
      exact ⟨by rw [← hjv.out]; rfl, R1.out, G1.out⟩

set_option maxHeartbeats 1000000 in
theorem putv_any (a : Option Addr) (len cap : Nat) (zs : List Int) (v : Int) (w : World) (H : Bytes w a len cap zs) (hv : 0 ≤ v ∧ v ≤ 18446744073709551615) (hm : len + 10 ≤ 281474976710656) :
    Calls Try.prog 13 #[.slice a len cap, .int .u64 v] w fun e w' => e = .returned (.slice (some ⟨w.heap.size, 0, none⟩) (len + (Vb.vb v).length) (len + (Vb.vb v).length)) ∧ Row w' w.heap.size w.heap.size (len + (Vb.vb v).length) (len + (Vb.vb v).length) (zs ++ Vb.vb v) ∧ Below w.heap.size w w' := by
  have hl := Vb.vb_le v
  go_enter Try.func13, Try.ntmps13
  go_wp2_with fail
  refine (Rd.size_any v _ hv).mono ?_
  rintro e w' ⟨rfl, rfl⟩
  go_wp2_with fail
  refine (room_any a len cap (Vb.vb v).length zs _ H (by omega)).mono ?_
  rintro e w1 ⟨rfl, R1, b1⟩
  go_wp2_with fail
  refine (appv_any _ _ _ _ zs v _ R1 hv (by omega)).mono ?_
  rintro e w2 ⟨rfl, R2, g2⟩
  go_wp2_with fail
  go_ret
  exact ⟨rfl, R2, b1.grown g2 b1.size (by intro k hk; simp at hk; omega)⟩

/-! ### Bytes as a string -/
def str (ns : List Int) : ByteArray := ns.foldl (fun r n => r.push (UInt8.ofNat n.toNat)) ByteArray.empty
theorem nil_bytes (w : World) : Bytes w none 0 0 [] := ⟨rfl, Nat.le_refl _, fun _ => ⟨rfl, rfl⟩, by simp, by simp⟩
theorem conv_run (W : World) (a : Option Addr) (len cap : Nat) (zs : List Int) (hz : zs.length = len) (hn : a = none → len = 0 ∧ cap = 0)
    (hc : ∀ x, a = some x → ∀ i, i < len → W.cell? (x.add i) = some (.int .u8 (zs.getD i 0))) :
    Sem.run Try.prog (convert 22 9 (.slice a len cap)) W = .ok (.string (str zs)) W := by
  rw [run_convert_bytes_string W 22 9 5 a len cap Try.underlying22 Try.underlying5 Try.underlying9]
  cases a with
  | none =>
    obtain ⟨rfl, rfl⟩ := hn rfl
    have : zs = [] := List.eq_nil_of_length_eq_zero hz
    subst this
    rfl
  | some x =>
    have h := run_loadCells_list (P := Try.prog) (w := W) x (zs.map (Value.int .u8)) (by
      intro j u hu
      rw [List.getElem?_map] at hu
      cases hj : zs[j]? with
      | none => rw [hj] at hu; simp at hu
      | some y =>
        rw [hj] at hu
        simp at hu
        have hlt : j < zs.length := (List.getElem?_eq_some_iff.1 hj).1
        have := hc x rfl j (by omega)
        rw [List.getD_eq_getElem?_getD, hj] at this
        rw [← hu]
        exact this)
    simp only [List.length_map, hz] at h
    exact run_bytesToString W x len cap zs h
theorem Bytes.conv {W : World} {a : Option Addr} {len cap : Nat} {zs : List Int} (H : Bytes W a len cap zs) :
    Sem.run Try.prog (convert 22 9 (.slice a len cap)) W = .ok (.string (str zs)) W := conv_run W a len cap zs H.1 H.2.2.1 H.2.2.2.2
theorem Row.conv {W : World} {base g n cap : Nat} {xs : List Int} (h : Row W base g n cap xs) :
    Sem.run Try.prog (convert 22 9 (.slice (some ⟨g, 0, none⟩) n cap)) W = .ok (.string (str xs)) W :=
  conv_run W _ n cap xs h.len (fun e => by simp at e) (fun x hx i hi => by simp at hx; subst hx; rw [addr_add, Nat.zero_add]; exact h.cell i hi)
theorem bytes_kept {W W' : World} {a : Option Addr} {len cap : Nat} {zs : List Int} (H : Bytes W a len cap zs) (hb : Below W.heap.size W W') : Bytes W' a len cap zs :=
  ⟨H.1, H.2.1, H.2.2.1, H.2.2.2.1, fun x hx i hi => cell_later hb (H.2.2.2.2 x hx i hi)⟩
theorem bytes_take {W : World} {a : Option Addr} {len cap : Nat} {zs : List Int} (H : Bytes W a len cap zs) (m : Nat) (hm : m ≤ len) (ha : a = none → m = 0) : Bytes W a m cap (zs.take m) := by
  refine ⟨by rw [List.length_take, H.1]; omega, by have := H.2.1; omega, fun e => ⟨ha e, (H.2.2.1 e).2⟩, fun y hy => H.2.2.2.1 y (List.mem_of_mem_take hy), ?_⟩
  intro x hx i hi
  rw [H.2.2.2.2 x hx i (by omega)]
  simp [List.getD_eq_getElem?_getD, hi]
end Go.Proofs.Ytpinknkdcecajaa.Wr
