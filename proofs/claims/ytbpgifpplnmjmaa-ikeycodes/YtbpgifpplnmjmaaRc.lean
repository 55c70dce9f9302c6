/- Decode by the document's definition. -/
import Derived.Test.YtbpgifpplnmjmaaRe
namespace Go.Proofs.Ytbpgifpplnmjmaa.En
open Go.ChangeShapes Go.WideShapes Go.ChangeAt Go.RowKit
open Go.Proofs.Ytbpgifpplnmjmaa.Kd (kindB sizeB seqB kind_true kind_false size_true size_false seq_true seq_false un0 un1 unE runpack_any)
open Go.Proofs.Ytbpgifpplnmjmaa.By
open Go.Proofs.Ytbpgifpplnmjmaa.Mr
set_option linter.unusedVariables false

theorem dec_false2 {zs : List Int} (h : decB zs = false) : zs.length < 9 ∨ 1032 < zs.length ∨ (9 ≤ zs.length ∧ zs.length ≤ 1032 ∧ kindB (dv zs % 256) = false) := by
  rcases dec_false h with h1 | ⟨h1, h2⟩ | ⟨h1, h2, h3⟩
  · exact .inl (by omega)
  · rcases size_false h2 with h | h
    · exact .inl (by omega)
    · exact .inr (.inl (by omega))
  · have := size_true h2
    exact .inr (.inr ⟨by omega, by omega, h3⟩)

set_option maxHeartbeats 1000000 in
theorem rdecode_no (a : Option Addr) (len cap : Nat) (zs : List Int) (w : World) (H : Bytes w a len cap zs) (hcap : len ≤ 281474976710656) (h : decB zs = false) :
    Calls Try.prog 21 #[.slice a len cap] w fun e w' => e = .returned (.tuple #[.agg #[.string ⟨#[]⟩, .int .u64 0, .int .i64 0], .int .i64 30]) ∧ Below w.heap.size w w' := by
  have hz := H.1
  rcases dec_false2 h with h1 | h1 | ⟨h1, h1', h3⟩
  · rw [hz] at h1
    have g1 : (len : Int) < 9 := by omega
    clear h H hz h1
    go_enter Try.func21, Try.ntmps21
    go_wp2_with fail
    exact bodyPost_ret (v := .tuple #[.agg #[.string ⟨#[]⟩, .int .u64 0, .int .i64 0], .int .i64 30]) (by simp [results, Try.results21, go_sem]) rfl ⟨rfl, one_below _ _⟩
  · rw [hz] at h1
    have g1 : ¬ (len : Int) < 9 := by omega
    have g2 : 1032 < (len : Int) := by omega
    clear h H hz h1
    go_enter Try.func21, Try.ntmps21
    go_wp2_with fail
    exact bodyPost_ret (v := .tuple #[.agg #[.string ⟨#[]⟩, .int .u64 0, .int .i64 0], .int .i64 30]) (by simp [results, Try.results21, go_sem]) rfl ⟨rfl, one_below _ _⟩
  · have F : ∀ w1, Below w.heap.size w w1 → Calls Try.prog 42 #[.slice a len cap, .int .i64 ((len : Int) - 8), .int .i64 (8 : Nat)] w1 fun e w' => e = .returned (.tuple #[.int .u64 (Fx.fread zs ((len : Int) - 8) 8).1, .int .i64 (Fx.fread zs ((len : Int) - 8) 8).2.1, .int .i64 (Fx.fread zs ((len : Int) - 8) 8).2.2]) ∧ w' = w1 :=
      fun w1 hb => rfixed_any a len cap zs _ 8 w1 (bytes_kept H hb) hcap (by omega)
    have e := fread_dv zs (by omega)
    rw [hz] at e
    rw [e] at F
    have HF : Hid (∀ w1, Below w.heap.size w w1 → Calls Try.prog 42 #[.slice a len cap, .int .i64 ((len : Int) - 8), .int .i64 8] w1 fun e w' => e = .returned (.tuple #[.int .u64 (dv zs), .int .i64 (len : Int), .int .i64 0]) ∧ w' = w1) := F
    have hd := dv_bd zs H.2.2.2.1 (by omega)
    rw [hz] at h1 h1'
    have g1 : ¬ (len : Int) < 9 := by omega
    have g2 : ¬ 1032 < (len : Int) := by omega
    clear F e h H hz h1 h1'
    generalize dv zs = v at HF hd h3
    have U := fun w => runpack_any v hd.1 hd.2 w
    have e0 : un0 v = 0 ∧ un1 v = 0 ∧ unE v = 30 := by unfold un0 un1 unE; simp [h3]
    rw [e0.1, e0.2.1, e0.2.2] at U
    have HU : Hid (∀ w, Calls Try.prog 17 #[.int .u64 v] w fun e w' => e = .returned (.tuple #[.int .u64 0, .int .i64 0, .int .i64 30]) ∧ w' = w) := U
    clear U e0 h3
    go_enter Try.func21, Try.ntmps21
    go_wp2_with fail
    refine (HF.out _ (one_below _ _)).mono ?_
    rintro e w' ⟨rfl, rfl⟩
    go_wp2_with fail
    refine (HU.out _).mono ?_
    rintro e w' ⟨rfl, rfl⟩
    go_wp2_with fail
    exact bodyPost_ret (v := .tuple #[.agg #[.string ⟨#[]⟩, .int .u64 0, .int .i64 0], .int .i64 30]) (by simp [results, Try.results21, go_sem]) rfl ⟨rfl, one_below _ _⟩

set_option maxHeartbeats 1000000 in
theorem rdecode_yes (a : Option Addr) (len cap : Nat) (zs : List Int) (w : World) (H : Bytes w a len cap zs) (hcap : len ≤ 281474976710656) (h : decB zs = true) :
    Calls Try.prog 21 #[.slice a len cap] w fun e w' => e = .returned (.tuple #[.agg #[.string (str (zs.take (len - 8))), .int .u64 (dv zs / 256), .int .i64 (dv zs % 256)], .int .i64 0]) ∧ Below w.heap.size w w' := by
  obtain ⟨h1, h1', h2, h3⟩ := dec_true h
  have hz := H.1
  have hlc := H.2.1
  have F : ∀ w1, Below w.heap.size w w1 → Calls Try.prog 42 #[.slice a len cap, .int .i64 ((len : Int) - 8), .int .i64 (8 : Nat)] w1 fun e w' => e = .returned (.tuple #[.int .u64 (Fx.fread zs ((len : Int) - 8) 8).1, .int .i64 (Fx.fread zs ((len : Int) - 8) 8).2.1, .int .i64 (Fx.fread zs ((len : Int) - 8) 8).2.2]) ∧ w' = w1 :=
    fun w1 hb => rfixed_any a len cap zs _ 8 w1 (bytes_kept H hb) hcap (by omega)
  have e := fread_dv zs (by omega)
  rw [hz] at e
  rw [e] at F
  have HF : Hid (∀ w1, Below w.heap.size w w1 → Calls Try.prog 42 #[.slice a len cap, .int .i64 ((len : Int) - 8), .int .i64 8] w1 fun e w' => e = .returned (.tuple #[.int .u64 (dv zs), .int .i64 (len : Int), .int .i64 0]) ∧ w' = w1) := F
  have hd := dv_bd zs H.2.2.2.1 (by omega)
  rw [hz] at h1 h1'
  have g1 : ¬ (len : Int) < 9 := by omega
  have g2 : ¬ 1032 < (len : Int) := by omega
  have conv : ∀ w1, Below w.heap.size w w1 → Sem.run Try.prog (convert 39 9 (.slice a (len - 8) cap)) w1 = .ok (.string (str (zs.take (len - 8)))) w1 := fun w1 hb =>
    (bytes_take (bytes_kept H hb) (len - 8) (by omega) (fun e => by have := H.2.2.1 e; omega)).conv
  generalize dv zs = v at HF hd h3 ⊢
  generalize str (zs.take (len - 8)) = r at conv ⊢
  have cv := conv _ (one_below w (.cells #[.string ⟨#[]⟩, .int .u64 0, .int .i64 0] 24))
  have U := fun w => runpack_any v hd.1 hd.2 w
  have e0 : un0 v = v / 256 ∧ un1 v = v % 256 ∧ unE v = 0 := by unfold un0 un1 unE; simp [h3]
  rw [e0.1, e0.2.1, e0.2.2] at U
  obtain ⟨v1, hv1⟩ : ∃ x, x = v / 256 := ⟨_, rfl⟩
  obtain ⟨v2, hv2⟩ : ∃ x, x = v % 256 := ⟨_, rfl⟩
  rw [← hv1, ← hv2] at U ⊢
  have HU : Hid (∀ w, Calls Try.prog 17 #[.int .u64 v] w fun e w' => e = .returned (.tuple #[.int .u64 v1, .int .i64 v2, .int .i64 0]) ∧ w' = w) := U
  have L8 : (8 : Int) ≤ (len : Int) := by omega
  cases a with
  | none => exact absurd (H.2.2.1 rfl) (by omega)
  | some x =>
    clear U e0 h3 hv1 hv2 conv F e h H hz h1 h1' h2
    go_enter Try.func21, Try.ntmps21
    go_wp2_with fail
    refine (HF.out _ (one_below _ _)).mono ?_
    rintro e w' ⟨rfl, rfl⟩
    go_wp2_with fail
    refine (HU.out _).mono ?_
    rintro e w' ⟨rfl, rfl⟩
    go_wp2_with fail
    exact bodyPost_ret (v := .tuple #[.agg #[.string r, .int .u64 v1, .int .i64 v2], .int .i64 0]) (by simp [results, Try.results21, go_sem]) rfl ⟨rfl, one_below _ _⟩
end Go.Proofs.Ytbpgifpplnmjmaa.En
