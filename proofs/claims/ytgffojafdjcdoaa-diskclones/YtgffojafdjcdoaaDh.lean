/- Create, Sync, Remove. -/
import Derived.Test.YtgffojafdjcdoaaDg
import Derived.RegionTactic
import Derived.BigRegion
namespace Go.Proofs.Ytgffojafdjcdoaa.Dh
open Go.ChangeShapes Go.WideShapes Go.ChangeAt Go.RowKit Go.Maps
open Go.Proofs.Ytgffojafdjcdoaa.By
open Go.Proofs.Ytgffojafdjcdoaa.Ln
open Go.Proofs.Ytgffojafdjcdoaa.Mp
open Go.Proofs.Ytgffojafdjcdoaa.Dk
open Go.Proofs.Ytgffojafdjcdoaa.Df
open Go.Proofs.Ytgffojafdjcdoaa.Dg
set_option linter.unusedVariables false
set_option linter.unusedSimpArgs false

theorem Fr.join {P : Nat → Prop} {w w1 w2 : World} (h : Fr P w w1) (k : Fr P w1 w2) : Fr P w w2 := h.trans ⟨k.os, k.tape, k.output, k.size, fun j hj hp => k.block j hj (fun e => hp (.inl e))⟩
theorem below_drew (w : World) : Below w.heap.size w w.drew := ⟨rfl, rfl, rfl, Nat.le_refl _, fun _ _ => rfl⟩
def nilF : Fl := ⟨.slice none 0 0, [], 0⟩
theorem fnd_val {w : World} {base g b : Nat} {P : Nat → Prop} {S : St} (H : Disk w base g b P S) (s : ByteArray) : ∃ a c, (fnd S s).1.sl = .slice a (fnd S s).1.zs.length c ∧ (fnd S s).1.val = .agg #[.slice a (fnd S s).1.zs.length c, .int .i64 (fnd S s).1.k] := by
  have : ∃ a c, (fnd S s).1.sl = .slice a (fnd S s).1.zs.length c := by
    unfold fnd
    split
    · exact ⟨none, 0, rfl⟩
    · split
      · exact ⟨none, 0, rfl⟩
      · rename_i f hl
        obtain ⟨a, c, h⟩ := Df.shape (H.mem.row _ (seek_mem hl))
        exact ⟨a, c, h⟩
  obtain ⟨a, c, h⟩ := this
  exact ⟨a, c, h, by unfold Fl.val; rw [h]⟩
theorem fnd_cases (S : St) (s : ByteArray) : ((fnd S s).2 = 2 ∧ isN s = false) ∨ ((fnd S s).2 = 51 ∧ isN s = true ∧ seek S.fs s.data.toList = none) ∨ ((fnd S s).2 = 0 ∧ isN s = true ∧ seek S.fs s.data.toList = some (fnd S s).1) := by
  unfold fnd
  cases hn : isN s with
  | false => exact .inl ⟨by rw [if_pos rfl], rfl⟩
  | true =>
    rw [if_neg (by simp)]
    cases hl : seek S.fs s.data.toList with
    | none => exact .inr (.inl ⟨rfl, rfl, rfl⟩)
    | some f => exact .inr (.inr ⟨rfl, rfl, rfl⟩)
theorem tr_no {S : St} {full : Bool} (h : (tr S full).2 = false) : full = false := by
  unfold tr at h
  split at h
  · cases h
  · rename_i h1
    cases full
    · rfl
    · simp at h1
def full (S : St) : Bool := decide (4096 ≤ S.fs.length)
/-- What Create does. -/
def crt (S : St) (s : ByteArray) : St × Int :=
  if (fnd S s).2 = 51 then (if (tr S (full S)).2 = true then ((tr S (full S)).1, 52) else ({ (tr S (full S)).1 with fs := put S.fs s.data.toList nilF }, 0))
  else (S, if (fnd S s).2 = 0 then 50 else (fnd S s).2)
theorem own_nil (w : World) (base : Nat) : ownB w base nilF := World.ownsRow_nil _ _ _ _
set_option maxRecDepth 10000 in
theorem create_any {base g b : Nat} {P : Nat → Prop} {S : St} (s : ByteArray) (hs : s.size ≤ 9223372036854775807) (w : World) (H : Disk w base g b P S) (hr : S.rf < 4611686018427387904) : Calls Try.prog 27 #[.pointer (some ⟨g, 0, none⟩), .string s] w fun e w' => e = .returned (.int .i64 (crt S s).2) ∧ Disk w' base g b P (crt S s).1 ∧ Fr P w w' := by
  have HF0 := find_any s hs w H
  obtain ⟨a, c, hsl, hval⟩ := fnd_val H s
  rw [hval] at HF0
  have HF := hid HF0
  clear HF0
  have HH := hid H
  unfold crt
  rcases fnd_cases S s with ⟨he, hn⟩ | ⟨he, hn, hl⟩ | ⟨he, hn, hl⟩
  · rw [he, if_neg (by decide), if_neg (by decide)]
    rw [he] at HF
    generalize (fnd S s).1.zs.length = n at *
    generalize (fnd S s).1.k = k at *
    clear H hval hsl
    go_enter Try.func27, Try.ntmps27
    go_wp2_with fail
    refine HF.out.mono ?_
    rintro e w1 ⟨rfl, b1⟩
    have b2 : Below w.heap.size w (w1.alloc (.cells #[.slice a n c, .int .i64 k] 83)) := b1.alloc b1.size _
    have D2 := hid (HH.out.later b2)
    have F2 := hid ((Fr.refl P w).below b2)
    clear b1 b2
    go_wp2_with fail
    go_ret
    exact ⟨rfl, D2.out, F2.out⟩
  · rw [he, if_pos rfl]
    rw [he] at HF
    have hnb := isN_size hn
    have hno := hid (@tr_no S (full S))
    have hfs := hid (tr_fs S (full S))
    have HR : Hid (∀ W, Disk W base g b P S → Calls Try.prog 54 #[.pointer (some ⟨g, 0, none⟩), .bool (full S)] W fun e w' => e = .returned (.bool (tr S (full S)).2) ∧ Disk w' base g b P (tr S (full S)).1 ∧ Fr P W w') := fun W h => refuses_any (full S) W h hr
    have hflen : Hid (decide ((4096 : Int) ≤ (S.fs.length : Int)) = full S) := by show decide _ = decide _; rw [decide_eq_decide]; omega
    have hfull : Hid (full S = false → S.fs.length < 4096) := fun h => by unfold full at h; simpa using h
    generalize (fnd S s).1.zs.length = n at *
    generalize (fnd S s).1.k = k at *
    generalize tr S (full S) = r at *
    obtain ⟨S1, no⟩ := r
    simp only at hno hfs HR ⊢
    generalize full S = fl at *
    clear H hval hsl
    cases no
    · go_enter Try.func27, Try.ntmps27
      go_wp2_with fail
      refine HF.out.mono ?_
      rintro e w1 ⟨rfl, b1⟩
      have b2 : Below w.heap.size w (w1.alloc (.cells #[.slice a n c, .int .i64 k] 83)) := b1.alloc b1.size _
      have D2 := hid (HH.out.later b2)
      have F2 := hid ((Fr.refl P w).below b2)
      have c0 : (w1.alloc (.cells #[.slice a n c, .int .i64 k] 83)).cell? ⟨g, 0, none⟩ = some (.map (some b)) := D2.out.cell 0
      have hLn := fun ty => D2.out.run_len ty
      clear b1 b2
      go_wp2_with fail
      rw [hflen.out]
      refine (HR.out _ D2.out).mono ?_
      rintro e w3 ⟨rfl, D3, F3⟩
      clear hLn c0
      have e0 : w3.cell? ⟨g, 0, none⟩ = some (.map (some b)) := D3.cell 0
      obtain ⟨w4, hst, D4, gr4, _⟩ := D3.run_store (Kp.refl P w3 none) (by simp) (by simp) s hnb nilF (fun p hp hne j hj => ⟨by simp, fun e => nomatch e⟩) (own_nil _ _) (fun y hy => nomatch hy) (Nat.le_refl _)
        (by unfold put; rw [hfs.out, del_none hl]; have := hfull.out (hno.out (by simp)); simp; omega) (by unfold put; rw [hfs.out, del_none hl, used_cons]; have := HH.out.ok.used; simpa [nilF] using this) (fun _ h => h) (fun j hj => nomatch hj) D3.low
      have hst : (Instr.mapUpdate 46 (.map (some b)) (.string s) (.agg #[.slice none 0 0, .int .i64 0])).run Try.prog w3 = .ok () w4 := hst
      have FF : Hid (Fr P w w4) := (Fr.join F2.out F3).grown gr4 (fun j hj => .inl (by cases hj; exact HH.out.pb))
      rw [hfs.out] at D4
      have D4 := hid D4
      clear gr4 D3 F3
      go_wp2_with fail
      go_ret
      exact ⟨rfl, D4.out, FF.out⟩
    · go_enter Try.func27, Try.ntmps27
      go_wp2_with fail
      refine HF.out.mono ?_
      rintro e w1 ⟨rfl, b1⟩
      have b2 : Below w.heap.size w (w1.alloc (.cells #[.slice a n c, .int .i64 k] 83)) := b1.alloc b1.size _
      have D2 := hid (HH.out.later b2)
      have F2 := hid ((Fr.refl P w).below b2)
      have c0 : (w1.alloc (.cells #[.slice a n c, .int .i64 k] 83)).cell? ⟨g, 0, none⟩ = some (.map (some b)) := D2.out.cell 0
      have hLn := fun ty => D2.out.run_len ty
      clear b1 b2
      go_wp2_with fail
      rw [hflen.out]
      refine (HR.out _ D2.out).mono ?_
      rintro e w3 ⟨rfl, D3, F3⟩
      clear hLn c0
      have FF : Hid (Fr P w w3) := Fr.join F2.out F3
      have D3 := hid D3
      clear F3
      go_wp2_with fail
      go_ret
      exact ⟨rfl, D3.out, FF.out⟩
  · rw [he, if_neg (by decide), if_pos rfl]
    rw [he] at HF
    generalize (fnd S s).1.zs.length = n at *
    generalize (fnd S s).1.k = k at *
    clear H hval hsl
    go_enter Try.func27, Try.ntmps27
    go_wp2_with fail
    refine HF.out.mono ?_
    rintro e w1 ⟨rfl, b1⟩
    have b2 : Below w.heap.size w (w1.alloc (.cells #[.slice a n c, .int .i64 k] 83)) := b1.alloc b1.size _
    have D2 := hid (HH.out.later b2)
    have F2 := hid ((Fr.refl P w).below b2)
    clear b1 b2
    go_wp2_with fail
    go_ret
    exact ⟨rfl, D2.out, F2.out⟩
/-- What Sync does. -/
def syn (S : St) (s : ByteArray) : St × Int := if (fnd S s).2 = 0 then ({ S with fs := put S.fs s.data.toList { (fnd S s).1 with k := (fnd S s).1.zs.length } }, 0) else (S, (fnd S s).2)
theorem apart_put {w : World} {base g b : Nat} {P : Nat → Prop} {S : St} (H : Disk w base g b P S) {s : ByteArray} {f : Fl} (hl : seek S.fs s.data.toList = some f) : ∀ p ∈ S.fs, p.1 ≠ s.data.toList → ∀ j, p.2.sl.ownBlock = some j → f.sl.ownBlock ≠ some j :=
  fun p hp hne j hj e => hne (H.mem.apart p hp _ (seek_mem hl) j hj e)
theorem nodup {w : World} {base g b : Nat} {P : Nat → Prop} {S : St} (H : Disk w base g b P S) : (names S.fs).Nodup := by
  obtain ⟨D, _, hR⟩ := H.map
  exact hR.nodup
theorem len_put {fs : Fs} {s : K} {f f0 : Fl} (hn : (names fs).Nodup) (h : seek fs s = some f0) : (put fs s f).length = fs.length := by
  unfold put
  have := len_del hn h
  simp
  omega
set_option maxRecDepth 10000 in
theorem sync_any {base g b : Nat} {P : Nat → Prop} {S : St} (s : ByteArray) (hs : s.size ≤ 9223372036854775807) (w : World) (H : Disk w base g b P S) : Calls Try.prog 31 #[.pointer (some ⟨g, 0, none⟩), .string s] w fun e w' => e = .returned (.int .i64 (syn S s).2) ∧ Disk w' base g b P (syn S s).1 ∧ Fr P w w' := by
  have HF0 := find_any s hs w H
  obtain ⟨a, c, hsl, hval⟩ := fnd_val H s
  rw [hval] at HF0
  have HF := hid HF0
  clear HF0
  have HH := hid H
  unfold syn
  rcases fnd_cases S s with h | h | ⟨he, hn, hl⟩
  rotate_left 2
  · rw [he, if_pos rfl]
    rw [he] at HF
    have hnb := isN_size hn
    have HL := hid hl
    have hap := hid (apart_put H hl)
    have hmem := seek_mem hl
    have hrow := hid (H.mem.row _ hmem)
    have hby := hid (H.mem.bytes _ hmem)
    have hmm := hid (H.mem.mem _ hmem)
    have hlp := hid (fun f => @len_put S.fs s.data.toList f _ (nodup H) hl)
    have hup := hid (fun f => @used_put S.fs s.data.toList f _ (nodup H) hl)
    generalize (fnd S s).1 = f at *
    obtain ⟨sl, zs, k⟩ := f
    simp only at hsl hval hrow hby hmm hup HF ⊢
    subst hsl
    generalize hn : zs.length = n at *
    have hnn := hid hn
    clear H hval he hl hmem hn
    go_enter Try.func31, Try.ntmps31
    go_wp2_with fail
    refine HF.out.mono ?_
    rintro e w1 ⟨rfl, b1⟩
    have b2 : Below w.heap.size w (w1.alloc (.cells #[.slice a n c, .int .i64 n] 83)) := b1.alloc b1.size _
    have D2 := hid (HH.out.later b2)
    have F2 := hid ((Fr.refl P w).below b2)
    have c0 : (w1.alloc (.cells #[.slice a n c, .int .i64 n] 83)).cell? ⟨g, 0, none⟩ = some (.map (some b)) := D2.out.cell 0
    have D3 := D2.out.later (below_drew _)
    obtain ⟨w4, hst, D4, gr4, _⟩ := D3.run_store (Kp.refl P _ none) (by simp) (by simp) s hnb ⟨.slice a n c, zs, n⟩ (fun p hp hne j hj => ⟨by simp, hap.out p hp hne j hj⟩) (D3.mem.row _ (seek_mem HL.out)) hby.out (by rw [hnn.out]; exact Nat.le_refl _)
      (by rw [hlp.out]; exact HH.out.ok.len) (by have := hup.out ⟨.slice a n c, zs, n⟩; simp only at this; have := HH.out.ok.used; have := hnn.out; omega) (fun _ h => h) (fun j hj => hmm.out j hj) D3.low
    have hst : (Instr.mapUpdate 46 (.map (some b)) (.string s) (.agg #[.slice a n c, .int .i64 n])).run Try.prog (w1.alloc (.cells #[.slice a n c, .int .i64 n] 83)).drew = .ok () w4 := hst
    have FF : Hid (Fr P w w4) := (F2.out.below (below_drew _)).grown gr4 (fun j hj => .inl (by cases hj; exact HH.out.pb))
    have D4 := hid D4
    clear b1 b2 gr4 D3
    have d0 : (w1.alloc (.cells #[.slice a n c, .int .i64 n] 83)).cell? ⟨w1.heap.size, 0, none⟩ = some (.slice a n c) := by simp [go_sem]
    have d1 : (w1.alloc (.cells #[.slice a n c, .int .i64 n] 83)).cell? ⟨w1.heap.size, 1, none⟩ = some (.int .i64 n) := by simp [go_sem]
    go_wp2_with fail
    generalize w1.alloc (.cells #[.slice a n c, .int .i64 n] 83) = W at *
    go_region
    go_wp2_with fail
    go_ret
    exact ⟨rfl, D4.out, FF.out⟩
  all_goals
    obtain ⟨he, _⟩ := h
    rw [he, if_neg (by decide)]
    rw [he] at HF
    generalize (fnd S s).1.zs.length = n at *
    generalize (fnd S s).1.k = k at *
    clear H hval hsl
    go_enter Try.func31, Try.ntmps31
    go_wp2_with fail
    refine HF.out.mono ?_
    rintro e w1 ⟨rfl, b1⟩
    have b2 : Below w.heap.size w (w1.alloc (.cells #[.slice a n c, .int .i64 k] 83)) := b1.alloc b1.size _
    have D2 := hid (HH.out.later b2)
    have F2 := hid ((Fr.refl P w).below b2)
    clear b1 b2
    go_wp2_with fail
    go_ret
    exact ⟨rfl, D2.out, F2.out⟩
end Go.Proofs.Ytgffojafdjcdoaa.Dh
