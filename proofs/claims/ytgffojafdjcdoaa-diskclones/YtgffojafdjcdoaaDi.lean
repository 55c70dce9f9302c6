/- Remove, Rename. -/
import Derived.Test.YtgffojafdjcdoaaDh
namespace Go.Proofs.Ytgffojafdjcdoaa.Di
open Go.ChangeShapes Go.WideShapes Go.ChangeAt Go.RowKit Go.Maps
open Go.Proofs.Ytgffojafdjcdoaa.By
open Go.Proofs.Ytgffojafdjcdoaa.Ln
open Go.Proofs.Ytgffojafdjcdoaa.Mp
open Go.Proofs.Ytgffojafdjcdoaa.Dk
open Go.Proofs.Ytgffojafdjcdoaa.Df
open Go.Proofs.Ytgffojafdjcdoaa.Dg
open Go.Proofs.Ytgffojafdjcdoaa.Dh
set_option linter.unusedVariables false
set_option linter.unusedSimpArgs false

theorem not_b {w : World} {base g b : Nat} {P : Nat → Prop} {S : St} (h : Disk w base g b P S) {p : K × Fl} (hp : p ∈ S.fs) {j : Nat} (hj : p.2.sl.ownBlock = some j) : j ≠ b ∧ j ≠ g := by
  rcases (h.mem.row p hp).2 with ⟨e3, _⟩ | ⟨g', cap', cur, e3, _, hg, _⟩
  · rw [e3] at hj; cases hj
  · rw [e3] at hj
    have e4 : g' = j := by simpa [Value.ownBlock] using hj
    subst e4
    constructor
    · rintro rfl
      obtain ⟨D, ⟨es, clock, hb, _⟩, _⟩ := h.map
      rw [hb] at hg
      simp at hg
    · rintro rfl
      rw [h.cells] at hg
      simp at hg
theorem used_del_le (fs : Fs) (s : K) : used (del fs s) ≤ used fs := by
  induction fs with
  | nil => exact Nat.le_refl _
  | cons p r ih =>
    unfold del at ih ⊢
    by_cases e : p.1 = s
    · rw [List.filter_cons_of_neg (by simp [e]), used_cons]; omega
    · rw [List.filter_cons_of_pos (by simp [e]), used_cons, used_cons]; omega
theorem len_del_le (fs : Fs) (s : K) : (del fs s).length ≤ fs.length := List.length_filter_le _ _
/-- What Remove does. -/
def rmv (S : St) (s : ByteArray) : St × Int := if (fnd S s).2 = 0 then ({ S with fs := del S.fs s.data.toList }, 0) else (S, (fnd S s).2)
set_option maxRecDepth 10000 in
theorem remove_any {base g b : Nat} {P : Nat → Prop} {S : St} (s : ByteArray) (hs : s.size ≤ 9223372036854775807) (w : World) (H : Disk w base g b P S) : Calls Try.prog 33 #[.pointer (some ⟨g, 0, none⟩), .string s] w fun e w' => e = .returned (.int .i64 (rmv S s).2) ∧ Disk w' base g b P (rmv S s).1 ∧ Fr P w w' := by
  have HF0 := find_any s hs w H
  obtain ⟨a, c, hsl, hval⟩ := fnd_val H s
  rw [hval] at HF0
  have HF := hid HF0
  clear HF0
  have HH := hid H
  unfold rmv
  rcases fnd_cases S s with h | h | ⟨he, hn, hl⟩
  rotate_left 2
  · rw [he, if_pos rfl]
    rw [he] at HF
    have hnb := isN_size hn
    have HL := hid hl
    generalize (fnd S s).1.zs.length = n at *
    generalize (fnd S s).1.k = k at *
    clear H hval hsl
    go_enter Try.func33, Try.ntmps33
    go_wp2_with fail
    refine HF.out.mono ?_
    rintro e w1 ⟨rfl, b1⟩
    have b2 : Below w.heap.size w (w1.alloc (.cells #[.slice a n c, .int .i64 k] 83)) := b1.alloc b1.size _
    have D2 := hid (HH.out.later b2)
    have F2 := hid ((Fr.refl P w).below b2)
    have c0 : (w1.alloc (.cells #[.slice a n c, .int .i64 k] 83)).cell? ⟨g, 0, none⟩ = some (.map (some b)) := D2.out.cell 0
    obtain ⟨w4, hdr, D4, gr4, _⟩ := D2.out.run_drop s hnb.2 HL.out 0
    have FF : Hid (Fr P w w4) := F2.out.grown gr4 (fun j hj => .inl (by cases hj; exact HH.out.pb))
    have D4 := hid D4
    clear b1 b2 gr4
    go_wp2_with fail
    go_ret
    exact ⟨rfl, D4.out, FF.out⟩
  all_goals
    obtain ⟨he, _⟩ := h
    rw [he, if_neg (by decide)]
    rw [he] at HF
    generalize (fnd S s).1.zs.length = n at *
    generalize (fnd S s).1.k = k at *
    clear H hval hsl
    go_enter Try.func33, Try.ntmps33
    go_wp2_with fail
    refine HF.out.mono ?_
    rintro e w1 ⟨rfl, b1⟩
    have b2 : Below w.heap.size w (w1.alloc (.cells #[.slice a n c, .int .i64 k] 83)) := b1.alloc b1.size _
    have D2 := hid (HH.out.later b2)
    have F2 := hid ((Fr.refl P w).below b2)
    clear b1 b2
    go_wp2_with fail
    go_ret
    exact ⟨rfl, D2.out, F2.out⟩
/-- What Rename does. -/
def rnm (S : St) (s t : ByteArray) : St × Int := if ((fnd S s).2 = 0 ∨ (fnd S s).2 = 51) ∧ isN t = false then (S, 2) else if (fnd S s).2 = 0 then ({ S with fs := put (del S.fs s.data.toList) t.data.toList (fnd S s).1 }, 0) else (S, (fnd S s).2)
set_option maxRecDepth 10000 in
theorem rename_any {base g b : Nat} {P : Nat → Prop} {S : St} (s : ByteArray) (hs : s.size ≤ 9223372036854775807) (t : ByteArray) (ht : t.size ≤ 9223372036854775807) (w : World) (H : Disk w base g b P S) : Calls Try.prog 32 #[.pointer (some ⟨g, 0, none⟩), .string s, .string t] w fun e w' => e = .returned (.int .i64 (rnm S s t).2) ∧ Disk w' base g b P (rnm S s t).1 ∧ Fr P w w' := by
  have HF0 := find_any s hs w H
  obtain ⟨a, c, hsl, hval⟩ := fnd_val H s
  rw [hval] at HF0
  have HF := hid HF0
  clear HF0
  have HH := hid H
  have HI := hid (isname_any t ht)
  unfold rnm
  rcases fnd_cases S s with ⟨he, _⟩ | ⟨he, _, _⟩ | ⟨he, hn, hl⟩
  · rw [he, if_neg (by simp), if_neg (by decide)]
    rw [he] at HF
    generalize (fnd S s).1.zs.length = n at *
    generalize (fnd S s).1.k = k at *
    clear H hval hsl
    go_enter Try.func32, Try.ntmps32
    go_wp2_with fail
    refine HF.out.mono ?_
    rintro e w1 ⟨rfl, b1⟩
    have b2 : Below w.heap.size w (w1.alloc (.cells #[.slice a n c, .int .i64 k] 83)) := b1.alloc b1.size _
    have D2 := hid (HH.out.later b2)
    have F2 := hid ((Fr.refl P w).below b2)
    clear b1 b2
    go_wp2_with fail
    go_ret
    exact ⟨rfl, D2.out, F2.out⟩
  · rw [he]
    rw [he] at HF
    cases hnt : isN t with
    | false =>
      rw [hnt] at HI
      rw [if_pos ⟨.inr rfl, rfl⟩]
      generalize (fnd S s).1.zs.length = n at *
      generalize (fnd S s).1.k = k at *
      clear H hval hsl
      go_enter Try.func32, Try.ntmps32
      go_wp2_with fail
      refine HF.out.mono ?_
      rintro e w1 ⟨rfl, b1⟩
      have b2 : Below w.heap.size w (w1.alloc (.cells #[.slice a n c, .int .i64 k] 83)) := b1.alloc b1.size _
      have D2 := hid (HH.out.later b2)
      have F2 := hid ((Fr.refl P w).below b2)
      clear b1 b2
      go_wp2_with fail
      refine (HI.out _).mono ?_
      rintro e w3 ⟨rfl, rfl⟩
      go_wp2_with fail
      go_ret
      exact ⟨rfl, D2.out, F2.out⟩
    | true =>
      rw [hnt] at HI
      rw [if_neg (by simp), if_neg (by decide)]
      generalize (fnd S s).1.zs.length = n at *
      generalize (fnd S s).1.k = k at *
      clear H hval hsl
      go_enter Try.func32, Try.ntmps32
      go_wp2_with fail
      refine HF.out.mono ?_
      rintro e w1 ⟨rfl, b1⟩
      have b2 : Below w.heap.size w (w1.alloc (.cells #[.slice a n c, .int .i64 k] 83)) := b1.alloc b1.size _
      have D2 := hid (HH.out.later b2)
      have F2 := hid ((Fr.refl P w).below b2)
      clear b1 b2
      go_wp2_with fail
      refine (HI.out _).mono ?_
      rintro e w3 ⟨rfl, rfl⟩
      go_wp2_with fail
      go_ret
      exact ⟨rfl, D2.out, F2.out⟩
  · rw [he]
    rw [he] at HF
    cases hnt : isN t with
    | false =>
      rw [hnt] at HI
      rw [if_pos ⟨.inl rfl, rfl⟩]
      generalize (fnd S s).1.zs.length = n at *
      generalize (fnd S s).1.k = k at *
      clear H hval hsl
      go_enter Try.func32, Try.ntmps32
      go_wp2_with fail
      refine HF.out.mono ?_
      rintro e w1 ⟨rfl, b1⟩
      have b2 : Below w.heap.size w (w1.alloc (.cells #[.slice a n c, .int .i64 k] 83)) := b1.alloc b1.size _
      have D2 := hid (HH.out.later b2)
      have F2 := hid ((Fr.refl P w).below b2)
      clear b1 b2
      go_wp2_with fail
      refine (HI.out _).mono ?_
      rintro e w3 ⟨rfl, rfl⟩
      go_wp2_with fail
      go_ret
      exact ⟨rfl, D2.out, F2.out⟩
    | true =>
      rw [hnt] at HI
      rw [if_neg (by simp), if_pos rfl]
      have hnb := isN_size hn
      have htb := isN_size hnt
      have HL := hid hl
      have hap := hid (apart_put H hl)
      have hmem := hid (seek_mem hl)
      have hby := hid (H.mem.bytes _ (seek_mem hl))
      have hla := hid (H.mem.lasts _ (seek_mem hl))
      have hmm := hid (H.mem.mem _ (seek_mem hl))
      have hlp := hid (len_del (nodup H) hl)
      have hup := hid (used_del (nodup H) hl)
      generalize (fnd S s).1 = f at *
      obtain ⟨sl, zs, k⟩ := f
      simp only at hsl hval hmem hby hla hmm hup HF ⊢
      subst hsl
      generalize hn' : zs.length = n at *
      have hnn := hid hn'
      clear H hval he hl hn'
      go_enter Try.func32, Try.ntmps32
      go_wp2_with fail
      refine HF.out.mono ?_
      rintro e w1 ⟨rfl, b1⟩
      have b2 : Below w.heap.size w (w1.alloc (.cells #[.slice a n c, .int .i64 k] 83)) := b1.alloc b1.size _
      have D2 := hid (HH.out.later b2)
      have F2 := hid ((Fr.refl P w).below b2)
      have c0 : (w1.alloc (.cells #[.slice a n c, .int .i64 k] 83)).cell? ⟨g, 0, none⟩ = some (.map (some b)) := D2.out.cell 0
      have d0 : (w1.alloc (.cells #[.slice a n c, .int .i64 k] 83)).cell? ⟨w1.heap.size, 0, none⟩ = some (.slice a n c) := by simp [go_sem]
      have d1 : (w1.alloc (.cells #[.slice a n c, .int .i64 k] 83)).cell? ⟨w1.heap.size, 1, none⟩ = some (.int .i64 k) := by simp [go_sem]
      have hgl : w1.heap.size ≠ b := by
        have h1 := HH.out.plow b HH.out.pb
        have h2 := b1.size
        omega
      obtain ⟨w4, hdr, D4, gr4, bl4⟩ := D2.out.run_drop s hnb.2 HL.out 0
      have hrow4 : ownB w4 base ⟨.slice a n c, zs, k⟩ := own_of_block (D2.out.mem.row _ hmem.out) (fun j hj => bl4 j (not_b D2.out hmem.out hj).1)
      have e0 : w4.cell? ⟨w1.heap.size, 0, none⟩ = some (.slice a n c) := (World.cell?_of_block (a := ⟨w1.heap.size, 0, none⟩) (bl4 _ hgl)).trans d0
      have e1 : w4.cell? ⟨w1.heap.size, 1, none⟩ = some (.int .i64 k) := (World.cell?_of_block (a := ⟨w1.heap.size, 1, none⟩) (bl4 _ hgl)).trans d1
      have e2 : w4.cell? ⟨g, 0, none⟩ = some (.map (some b)) := D4.cell 0
      have F4 : Fr P w w4 := F2.out.grown gr4 (fun j hj => .inl (by cases hj; exact HH.out.pb))
      have D5 := D4.later (below_drew w4)
      obtain ⟨w5, hst, D6, gr6, _⟩ := D5.run_store (Kp.refl P _ none) (by simp) (by simp) t htb ⟨.slice a n c, zs, k⟩ (fun p hp hne j hj => ⟨by simp, hap.out p (mem_del.1 hp).1 (mem_del.1 hp).2 j hj⟩) (own_of_block hrow4 (fun j hj => rfl)) hby.out (by have := hla.out; have := hnn.out; show k ≤ zs.length; omega)
        (by unfold put; have := len_del_le (del S.fs s.data.toList) t.data.toList; have := hlp.out; have := HH.out.ok.len; simp only [List.length_cons]; omega) (by unfold put; rw [used_cons]; have := used_del_le (del S.fs s.data.toList) t.data.toList; have := hup.out; have := HH.out.ok.used; have := hnn.out; simp only; omega) (fun _ h => h) (fun j hj => hmm.out j hj) D5.low
      have hst : (Instr.mapUpdate 46 (.map (some b)) (.string t) (.agg #[.slice a n c, .int .i64 k])).run Try.prog w4.drew = .ok () w5 := hst
      have FF : Hid (Fr P w w5) := (F4.below (below_drew w4)).grown gr6 (fun j hj => .inl (by cases hj; exact HH.out.pb))
      have D6 := hid D6
      clear b1 b2 gr4 gr6 bl4 D4 D5 F4 hrow4 hgl
      go_wp2_with fail
      refine (HI.out _).mono ?_
      rintro e w3 ⟨rfl, rfl⟩
      go_wp2_with fail
      go_region
      go_wp2_with fail
      go_ret
      exact ⟨rfl, D6.out, FF.out⟩
end Go.Proofs.Ytgffojafdjcdoaa.Di
