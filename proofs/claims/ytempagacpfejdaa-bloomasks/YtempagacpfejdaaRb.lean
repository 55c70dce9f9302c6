/- The document's bits of a key, in a row of numbers of the call's own. -/
import Derived.Test.YtempagacpfejdaaSt
import Derived.Test.YtempagacpfejdaaRh
namespace Go.Proofs.Ytempagacpfejdaa.Rb
open Go.ChangeShapes Go.WideShapes Go.ChangeAt Go.RowKit Go.Shelf
open Go.Proofs.Ytempagacpfejdaa.Wd
open Go.Proofs.Ytempagacpfejdaa.Hs
open Go.Proofs.Ytempagacpfejdaa.Rq
open Go.Proofs.Ytempagacpfejdaa.Bi
open Go.Proofs.Ytempagacpfejdaa.St
set_option linter.unusedVariables false
set_option linter.unusedSimpArgs false

def OwnI (w : World) (base : Nat) (v : Value) (xs : List Nat) : Prop := w.ownsRow base 3 1 v xs.length (xs.map fun (x : Nat) => Value.int .i64 (x : Int))
theorem infoI : (Try.prog.info? 3).map (fun i => (i.zero, i.size, i.bytes)) = some (some (.int .i64 0), 1, 8) := by kernel_rfl
theorem OwnI.nil (w : World) (base : Nat) : OwnI w base (.slice none 0 0) [] := World.ownsRow_nil _ _ _ _
theorem OwnI.later {w w' : World} {base : Nat} {v : Value} {xs : List Nat} (h : OwnI w base v xs) (b : Below w.heap.size w w') : OwnI w' base v xs := row_later h b
theorem OwnI.shape {w : World} {base : Nat} {v : Value} {xs : List Nat} (h : OwnI w base v xs) : ∃ a c, v = .slice a xs.length c ∧ (a = none ∨ ∃ g, a = some ⟨g, 0, none⟩) := row_shape h
theorem app_int (w : World) (base : Nat) (v : Value) (xs : List Nat) (x : Nat) (H : OwnI w base v xs) (hn : (xs.length + 1) * 8 ≤ 140737488355328) (hbase : base ≤ w.heap.size) :
    ∃ v' w', (Builtin.append_ #[53, 53] 53 #[v, .slice (some ⟨w.heap.size, 0, none⟩) 1 1]).run Try.prog (w.alloc (.cells #[.int .i64 (x : Int)] 3)) = .ok v' w' ∧ OwnI w' base v' (xs ++ [x]) ∧ w.grownBy w' v.ownBlock := by
  obtain ⟨i0, hi, hz0, hz1, hz2⟩ := info_parts infoI
  have H2 := row_later H (box_below w (.cells #[.int .i64 (x : Int)] 3))
  obtain ⟨v5, W5, r5, o5, g5, _⟩ := run_append_own (P := Try.prog) (w.alloc (.cells #[.int .i64 (x : Int)] 3)) base 53 53 3 i0 (.int .i64 0) 1 8 Try.underlying53 hi hz0 hz1 hz2 rfl (by decide) v xs.length _ H2 ⟨w.heap.size, 0, none⟩ 1 1 [.int .i64 (x : Int)] rfl (by
    intro j u hu
    match j, hu with
    | 0, hu => simp at hu; subst hu; exact cell_new1 w _ _) (by intro u hu; simp at hu; subst hu; rfl) (by unfold maxLen; omega) (by omega) (by rw [size_alloc]; omega)
  refine ⟨v5, W5, r5, ?_, ?_⟩
  · unfold OwnI
    rw [List.length_append, List.map_append]
    exact o5
  · have b1 := box_below w (.cells #[.int .i64 (x : Int)] 3)
    exact ⟨g5.os.trans b1.os, g5.tape.trans b1.tape, g5.output.trans b1.output, Nat.le_trans b1.size g5.size, fun k hk hne => (g5.block k (Nat.lt_of_lt_of_le hk b1.size) hne).trans (b1.block k hk)⟩
/-- A number of a row. -/
theorem OwnI.cell {w : World} {base : Nat} {a : Option Addr} {n c : Nat} {xs : List Nat} (h : OwnI w base (.slice a n c) xs) (i : Nat) (hi : i < xs.length) : ∃ g, a = some ⟨g, 0, none⟩ ∧ w.cell? ⟨g, i, none⟩ = some (.int .i64 ((xs.getD i 0 : Nat) : Int)) := by
  obtain ⟨a', c', he, ha⟩ := h.shape
  simp only [Value.slice.injEq] at he
  obtain ⟨rfl, rfl, rfl⟩ := he
  rcases ha with rfl | ⟨g, rfl⟩
  · rcases h.2 with ⟨e, h0⟩ | ⟨g, _, _, e, _⟩
    · omega
    · simp at e
  · refine ⟨g, rfl, ?_⟩
    rw [World.ownsRow.cellAt h i (by omega), List.getElem?_map, List.getD_eq_getElem?_getD, List.getElem?_eq_getElem hi]
    rfl
set_option maxRecDepth 100000 in
set_option maxHeartbeats 400000 in
theorem rbits_any (s : ByteArray) (n k : Nat) (w : World) (hs0 : s.size ≤ 9223372036854775807) (hn : 0 < n) (hn2 : n ≤ 9223372036854775807) (hk30 : k ≤ 30) :
    Calls Try.prog 26 #[.string s, .int .i64 (n : Int), .int .i64 (k : Int)] w fun e w' => ∃ g c, e = .returned (.slice g k c) ∧ OwnI w' w.heap.size (.slice g k c) (kb s n k) ∧ Below w.heap.size w w' := by
  have HH := hid (by have := Rh.rhash_any s sd hs0 w; rw [← sd_i] at this; exact this : Calls Try.prog 11 #[.string s, .int .u32 3164544308] w fun e w' => e = .returned (.int .u32 (toI (hsh s sd))) ∧ w' = w)
  have ER : bits .or .u32 (toI (hsh s sd) / 131072) (toI (hsh s sd) * 32768 % 4294967296) = toI (rot (hsh s sd)) := by rw [shl15, shr17, or_i]; rfl
  have h0 : Hid (hk s 0 = hsh s sd) := rfl
  have hbd := toI_bd (hsh s sd)
  go_enter Try.func26, Try.ntmps26
  go_wp2_with fail
  refine HH.out.mono ?_
  rintro e w' ⟨rfl, rfl⟩
  go_wp2_with fail
  clear ER hbd
  go_loopw [7, 9, 10] (fun hv ov iv wr => ∃ (i : Nat) (g : Option Addr) (c : Nat), i ≤ k ∧ hv = .int .u32 (toI (hk s i)) ∧ ov = .slice g i c ∧ iv = .int .i64 (i : Int) ∧ Hid (OwnI wr w'.heap.size (.slice g i c) (kb s n i)) ∧ Hid (Below w'.heap.size w' wr)) (fun _ _ iv _ => k - (intOf iv).toNat)
  case atStart => exact ⟨0, none, 0, by omega, by rw [h0.out], rfl, rfl, OwnI.nil _ _, Below.refl _ _⟩
  case round =>
    obtain ⟨i, g, c, hi, rfl, rfl, rfl, hO, hb⟩ := hrel
    by_cases hlt : i < k
    · have HS := hid (kb_succ s n i)
      have HK : Hid (hk s (i + 1) = hk s i + rot (hsh s sd)) := rfl
      obtain ⟨v', W', r1, o1, g1⟩ := app_int wr w'.heap.size (.slice g i c) (kb s n i) (bitA s n i) hO.out (by rw [kb_len]; omega) hb.out.size
      rw [← HS.out] at o1
      obtain ⟨g2, c2, rfl, _⟩ := o1.shape
      rw [kb_len] at r1 o1
      have b2 := hid (hb.out.grown g1 hb.out.size (fun q e => (World.ownsRow.lt hO.out q e).1))
      have HA : Hid (((bitA s n i : Nat) : Int) = toI (hk s i) % (n : Int)) := by show _ = _; rw [bitA_i]; rfl
      rw [HA.out] at r1
      generalize hk s i = x at *
      have hx := toI_bd x
      have wx : wrap64 (toI x % (n : Int)) = toI x % (n : Int) := wrap64_in _ (by
        have h5 := Nat.mod_le x.toNat n
        have h6 := x.isLt
        rw [bitA_i]; omega)
      have hn0 : ((n : Int) == 0) = false := by simp; omega
      replace o1 := hid o1
      replace r1 := hid r1
      replace g1 := hid g1
      have ii : (i : Int) < (k : Int) := by omega
      go_wp2_with (first | (at_builtin; refine wpList_append_run rfl (.tmp 23) (.tmp 30) 53 53 rfl (.slice g i c) (.slice (some ⟨wr.heap.size, 0, none⟩) 1 1) (.slice g2 (i + 1) c2) rfl rfl r1.out ?_))
      refine ⟨⟨i + 1, g2, c2, by omega, by rw [HK.out, ← add_m], rfl, by go_num, o1, b2⟩, by simp [intOf]; omega⟩
    · have e1 : i = k := by omega
      subst e1
      go_wp2
      go_ret
      exact ⟨g, c, rfl, hO.out, hb.out⟩
end Go.Proofs.Ytempagacpfejdaa.Rb
