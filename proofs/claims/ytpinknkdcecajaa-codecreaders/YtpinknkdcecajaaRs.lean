/- The Reader's calls and the document's reader's, side by side: what each tells is one plain function of the bytes, the place and the error. -/
import Derived.Test.YtpinknkdcecajaaRq
import Derived.Test.YtpinknkdcecajaaRf
namespace Go.Proofs.Ytpinknkdcecajaa.Rs
open Go.ChangeShapes Go.WideShapes Go.ChangeAt Go.RowKit
open Go.Proofs.Ytpinknkdcecajaa.Rd (Bytes ret_int addr_add)
open Go.Proofs.Ytpinknkdcecajaa.Wr
open Go.Proofs.Ytpinknkdcecajaa.Rt
open Go.Proofs.Ytpinknkdcecajaa.Rr
open Go.Proofs.Ytpinknkdcecajaa.Rq
open Go.Proofs.Ytpinknkdcecajaa.Rf
set_option linter.unusedVariables false

theorem m_V (r g len : Nat) (zs : List Int) (p er : Int) (W : World) (A : At W r (.slice (some ⟨g, 0, none⟩) len len) p er) (H : Bytes W (some ⟨g, 0, none⟩) len len zs) (hl : len ≤ 281474976710656) (hgr : g ≠ r) :
    Calls Try.prog 36 #[.pointer (some ⟨r, 0, none⟩)] W fun e W' => e = .returned (.int .u64 (sV zs p er).1) ∧ At W' r (.slice (some ⟨g, 0, none⟩) len len) (sV zs p er).2.1 (sV zs p er).2.2 ∧ W.grownBy W' (some r) := by
  by_cases her : er = 0
  · subst her
    by_cases hv : (Vb.vread zs p).2.2 = 0
    · have e : sV zs p 0 = ((Vb.vread zs p).1, (Vb.vread zs p).2.1, 0) := by unfold sV; rw [if_neg (by simp), if_pos hv]
      rw [e]
      exact m_V_ok r g len zs p _ _ W A H hl hgr (trip _ rfl rfl hv)
    · have z := Vb.vread_err zs p hv
      have e : sV zs p 0 = (0, p, (Vb.vread zs p).2.2) := by unfold sV; rw [if_neg (by simp), if_neg hv]
      rw [e]
      exact m_V_err r g len zs p _ W A H hl hgr (trip _ z.1 z.2 rfl) (by simp [hv])
  · have e : sV zs p er = (0, p, er) := by unfold sV; rw [if_pos her]
    rw [e]
    exact m_V_stay r _ p er W A (by simp [her])
theorem r_V (k : Nat) (a : Option Addr) (len cap : Nat) (zs : List Int) (p er : Int) (W : World) (B : Qt W k (.slice a len cap) p er) (H : Bytes W a len cap zs) (hl : len ≤ 281474976710656) :
    Calls Try.prog 37 #[.pointer (some ⟨k, 0, none⟩)] W fun e W' => e = .returned (.int .u64 (sV zs p er).1) ∧ Qt W' k (.slice a len cap) (sV zs p er).2.1 (sV zs p er).2.2 ∧ W.grownBy W' (some k) := by
  by_cases her : er = 0
  · subst her
    by_cases hv : (Vb.vread zs p).2.2 = 0
    · have e : sV zs p 0 = ((Vb.vread zs p).1, (Vb.vread zs p).2.1, 0) := by unfold sV; rw [if_neg (by simp), if_pos hv]
      rw [e]
      exact r_V_ok k a len cap zs p _ _ W B H hl (trip _ rfl rfl hv)
    · have z := Vb.vread_err zs p hv
      have e : sV zs p 0 = (0, p, (Vb.vread zs p).2.2) := by unfold sV; rw [if_neg (by simp), if_neg hv]
      rw [e]
      exact r_V_err k a len cap zs p _ W B H hl (trip _ z.1 z.2 rfl) (by simp [hv])
  · have e : sV zs p er = (0, p, er) := by unfold sV; rw [if_pos her]
    rw [e]
    exact r_V_stay k _ p er W B (by simp [her])
theorem m_F32 (r g len : Nat) (zs : List Int) (p er : Int) (W : World) (A : At W r (.slice (some ⟨g, 0, none⟩) len len) p er) (H : Bytes W (some ⟨g, 0, none⟩) len len zs) (hl : len ≤ 281474976710656) (hgr : g ≠ r) :
    Calls Try.prog 40 #[.pointer (some ⟨r, 0, none⟩)] W fun e W' => e = .returned (.int .u32 (sF 4 zs p er).1) ∧ At W' r (.slice (some ⟨g, 0, none⟩) len len) (sF 4 zs p er).2.1 (sF 4 zs p er).2.2 ∧ W.grownBy W' (some r) := by
  by_cases her : er = 0
  · subst her
    by_cases hv : (Fx.fread zs p 4).2.2 = 0
    · have e : sF 4 zs p 0 = ((Fx.fread zs p 4).1, (Fx.fread zs p 4).2.1, 0) := by unfold sF; rw [if_neg (by simp), if_pos hv]
      rw [e]
      exact m_F32_ok r g len zs p _ _ W A H hl hgr (trip _ rfl rfl hv)
    · have z := fread_err zs p 4 hv
      have e : sF 4 zs p 0 = (0, p, (Fx.fread zs p 4).2.2) := by unfold sF; rw [if_neg (by simp), if_neg hv]
      rw [e]
      exact m_F32_err r g len zs p _ W A H hl hgr (trip _ z.1 z.2 rfl) (by simp [hv])
  · have e : sF 4 zs p er = (0, p, er) := by unfold sF; rw [if_pos her]
    rw [e]
    exact m_F32_stay r _ p er W A (by simp [her])
theorem r_F32 (k : Nat) (a : Option Addr) (len cap : Nat) (zs : List Int) (p er : Int) (W : World) (B : Qt W k (.slice a len cap) p er) (H : Bytes W a len cap zs) (hl : len ≤ 281474976710656) :
    Calls Try.prog 41 #[.pointer (some ⟨k, 0, none⟩), .int .i64 4] W fun e W' => e = .returned (.int .u64 (sF 4 zs p er).1) ∧ Qt W' k (.slice a len cap) (sF 4 zs p er).2.1 (sF 4 zs p er).2.2 ∧ W.grownBy W' (some k) := by
  by_cases her : er = 0
  · subst her
    by_cases hv : (Fx.fread zs p 4).2.2 = 0
    · have e : sF 4 zs p 0 = ((Fx.fread zs p 4).1, (Fx.fread zs p 4).2.1, 0) := by unfold sF; rw [if_neg (by simp), if_pos hv]
      rw [e]
      exact r_F4_ok k a len cap zs p _ _ W B H hl (trip _ rfl rfl hv)
    · have z := fread_err zs p 4 hv
      have e : sF 4 zs p 0 = (0, p, (Fx.fread zs p 4).2.2) := by unfold sF; rw [if_neg (by simp), if_neg hv]
      rw [e]
      exact r_F4_err k a len cap zs p _ W B H hl (trip _ z.1 z.2 rfl) (by simp [hv])
  · have e : sF 4 zs p er = (0, p, er) := by unfold sF; rw [if_pos her]
    rw [e]
    exact r_F4_stay k _ p er W B (by simp [her])
theorem m_F64 (r g len : Nat) (zs : List Int) (p er : Int) (W : World) (A : At W r (.slice (some ⟨g, 0, none⟩) len len) p er) (H : Bytes W (some ⟨g, 0, none⟩) len len zs) (hl : len ≤ 281474976710656) (hgr : g ≠ r) :
    Calls Try.prog 42 #[.pointer (some ⟨r, 0, none⟩)] W fun e W' => e = .returned (.int .u64 (sF 8 zs p er).1) ∧ At W' r (.slice (some ⟨g, 0, none⟩) len len) (sF 8 zs p er).2.1 (sF 8 zs p er).2.2 ∧ W.grownBy W' (some r) := by
  by_cases her : er = 0
  · subst her
    by_cases hv : (Fx.fread zs p 8).2.2 = 0
    · have e : sF 8 zs p 0 = ((Fx.fread zs p 8).1, (Fx.fread zs p 8).2.1, 0) := by unfold sF; rw [if_neg (by simp), if_pos hv]
      rw [e]
      exact m_F64_ok r g len zs p _ _ W A H hl hgr (trip _ rfl rfl hv)
    · have z := fread_err zs p 8 hv
      have e : sF 8 zs p 0 = (0, p, (Fx.fread zs p 8).2.2) := by unfold sF; rw [if_neg (by simp), if_neg hv]
      rw [e]
      exact m_F64_err r g len zs p _ W A H hl hgr (trip _ z.1 z.2 rfl) (by simp [hv])
  · have e : sF 8 zs p er = (0, p, er) := by unfold sF; rw [if_pos her]
    rw [e]
    exact m_F64_stay r _ p er W A (by simp [her])
theorem r_F64 (k : Nat) (a : Option Addr) (len cap : Nat) (zs : List Int) (p er : Int) (W : World) (B : Qt W k (.slice a len cap) p er) (H : Bytes W a len cap zs) (hl : len ≤ 281474976710656) :
    Calls Try.prog 41 #[.pointer (some ⟨k, 0, none⟩), .int .i64 8] W fun e W' => e = .returned (.int .u64 (sF 8 zs p er).1) ∧ Qt W' k (.slice a len cap) (sF 8 zs p er).2.1 (sF 8 zs p er).2.2 ∧ W.grownBy W' (some k) := by
  by_cases her : er = 0
  · subst her
    by_cases hv : (Fx.fread zs p 8).2.2 = 0
    · have e : sF 8 zs p 0 = ((Fx.fread zs p 8).1, (Fx.fread zs p 8).2.1, 0) := by unfold sF; rw [if_neg (by simp), if_pos hv]
      rw [e]
      exact r_F8_ok k a len cap zs p _ _ W B H hl (trip _ rfl rfl hv)
    · have z := fread_err zs p 8 hv
      have e : sF 8 zs p 0 = (0, p, (Fx.fread zs p 8).2.2) := by unfold sF; rw [if_neg (by simp), if_neg hv]
      rw [e]
      exact r_F8_err k a len cap zs p _ W B H hl (trip _ z.1 z.2 rfl) (by simp [hv])
  · have e : sF 8 zs p er = (0, p, er) := by unfold sF; rw [if_pos her]
    rw [e]
    exact r_F8_stay k _ p er W B (by simp [her])
theorem m_N (r g len : Nat) (zs : List Int) (most : Int) (hmost : -9223372036854775808 ≤ most ∧ most ≤ 9223372036854775807) (p er : Int) (W : World) (A : At W r (.slice (some ⟨g, 0, none⟩) len len) p er) (H : Bytes W (some ⟨g, 0, none⟩) len len zs) (hl : len ≤ 281474976710656) (hgr : g ≠ r) :
    Calls Try.prog 38 #[.pointer (some ⟨r, 0, none⟩), .int .i64 most] W fun e W' => e = .returned (.int .i64 (sN most zs p er).1) ∧ At W' r (.slice (some ⟨g, 0, none⟩) len len) (sN most zs p er).2.1 (sN most zs p er).2.2 ∧ W.grownBy W' (some r) := by
  have hz := H.1
  by_cases her : er = 0
  · subst her
    by_cases hv : (Vb.vread zs p).2.2 = 0
    · obtain ⟨q, hq, _, _, hql, hx0, hx1⟩ := vread_ok zs p H.2.2.2.1 hv
      obtain ⟨x, hx⟩ : ∃ x : Nat, (Vb.vread zs p).1 = (x : Int) := ⟨(Vb.vread zs p).1.toNat, by omega⟩
      by_cases hm : most < 0 ∨ most < (Vb.vread zs p).1
      · have e : sN most zs p 0 = (0, p, 3) := by unfold sN; rw [if_neg (by simp), if_neg (by simp [hv]), if_pos hm]
        rw [e]
        exact m_N_big r g len zs p _ most _ W A H hl hgr (trip _ rfl rfl hv) hm hmost
      · have e : sN most zs p 0 = ((Vb.vread zs p).1, (Vb.vread zs p).2.1, 0) := by unfold sN; rw [if_neg (by simp), if_neg (by simp [hv]), if_neg hm]
        rw [e, hx, hq]
        exact m_N_ok r g len zs p _ most x W A H hl hgr (trip _ hx hq hv) (by omega) hmost.2
    · have z := Vb.vread_err zs p hv
      have e : sN most zs p 0 = (0, p, (Vb.vread zs p).2.2) := by unfold sN; rw [if_neg (by simp), if_pos hv]
      rw [e]
      exact m_N_err r g len zs p _ most W A H hl hgr (trip _ z.1 z.2 rfl) (by simp [hv])
  · have e : sN most zs p er = (0, p, er) := by unfold sN; rw [if_pos her]
    rw [e]
    exact m_N_stay r _ most p er W A (by simp [her])
theorem m_T (r g len : Nat) (zs : List Int) (most : Int) (hmost : -9223372036854775808 ≤ most ∧ most ≤ 9223372036854775807) (p er : Int) (W : World) (A : At W r (.slice (some ⟨g, 0, none⟩) len len) p er) (H : Bytes W (some ⟨g, 0, none⟩) len len zs) (hl : len ≤ 281474976710656) (hgr : g ≠ r) :
    Calls Try.prog 43 #[.pointer (some ⟨r, 0, none⟩), .int .i64 most] W fun e W' => e = .returned (.string (str (sT most zs p er).1)) ∧ At W' r (.slice (some ⟨g, 0, none⟩) len len) (sT most zs p er).2.1 (sT most zs p er).2.2 ∧ W.grownBy W' (some r) := by
  have hz := H.1
  by_cases her : er = 0
  · subst her
    by_cases hv : (Vb.vread zs p).2.2 = 0
    · obtain ⟨q, hq, _, _, hql, hx0, hx1⟩ := vread_ok zs p H.2.2.2.1 hv
      obtain ⟨x, hx⟩ : ∃ x : Nat, (Vb.vread zs p).1 = (x : Int) := ⟨(Vb.vread zs p).1.toNat, by omega⟩
      by_cases hm : most < 0 ∨ most < (Vb.vread zs p).1
      · have e : sT most zs p 0 = ([], p, 3) := by unfold sT; rw [if_neg (by simp), if_neg (by simp [hv]), if_pos hm]
        rw [e]
        exact m_T_big r g len zs p _ most _ W A H hl hgr (trip _ rfl rfl hv) hm hmost
      · by_cases hs : (zs.length : Int) - (Vb.vread zs p).2.1 < (Vb.vread zs p).1
        · have e : sT most zs p 0 = ([], p, 10) := by unfold sT; rw [if_neg (by simp), if_neg (by simp [hv]), if_neg hm, if_pos hs]
          rw [e]
          exact m_T_short r g len zs p most q x W A H hl hgr (trip _ hx hq hv) (by omega) hmost.2 (by omega) (by omega)
        · have e : sT most zs p 0 = ((zs.drop q).take x, (q : Int) + x, 0) := by unfold sT; rw [if_neg (by simp), if_neg (by simp [hv]), if_neg hm, if_neg hs, hx, hq]; simp
          rw [e]
          exact m_T_ok r g len zs p most q x W A H hl hgr (trip _ hx hq hv) (by omega) hmost.2 (by omega) (by omega) hgr
    · have z := Vb.vread_err zs p hv
      have e : sT most zs p 0 = ([], p, (Vb.vread zs p).2.2) := by unfold sT; rw [if_neg (by simp), if_pos hv]
      rw [e]
      exact m_T_err r g len zs p _ most W A H hl hgr (trip _ z.1 z.2 rfl) (by simp [hv])
  · have e : sT most zs p er = ([], p, er) := by unfold sT; rw [if_pos her]
    rw [e]
    exact m_T_stay r _ most p er W A (by simp [her])
theorem r_N (k : Nat) (a : Option Addr) (len cap : Nat) (zs : List Int) (most : Int) (hmost : -9223372036854775808 ≤ most ∧ most ≤ 9223372036854775807) (p er : Int) (W : World) (B : Qt W k (.slice a len cap) p er) (H : Bytes W a len cap zs) (hl : len ≤ 281474976710656) :
    Calls Try.prog 39 #[.pointer (some ⟨k, 0, none⟩), .int .i64 most] W fun e W' => e = .returned (.int .i64 (sN most zs p er).1) ∧ Qt W' k (.slice a len cap) (sN most zs p er).2.1 (sN most zs p er).2.2 ∧ W.grownBy W' (some k) := by
  have hz := H.1
  by_cases her : er = 0
  · subst her
    by_cases hv : (Vb.vread zs p).2.2 = 0
    · obtain ⟨q, hq, _, _, hql, hx0, hx1⟩ := vread_ok zs p H.2.2.2.1 hv
      obtain ⟨x, hx⟩ : ∃ x : Nat, (Vb.vread zs p).1 = (x : Int) := ⟨(Vb.vread zs p).1.toNat, by omega⟩
      by_cases hm : most < 0 ∨ most < (Vb.vread zs p).1
      · have e : sN most zs p 0 = (0, p, 3) := by unfold sN; rw [if_neg (by simp), if_neg (by simp [hv]), if_pos hm]
        rw [e]
        exact r_N_big k a len cap zs p _ most _ W B H hl (trip _ rfl rfl hv) hm hmost
      · have e : sN most zs p 0 = ((Vb.vread zs p).1, (Vb.vread zs p).2.1, 0) := by unfold sN; rw [if_neg (by simp), if_neg (by simp [hv]), if_neg hm]
        rw [e, hx, hq]
        exact r_N_ok k a len cap zs p _ most x W B H hl (trip _ hx hq hv) (by omega) hmost.2
    · have z := Vb.vread_err zs p hv
      have e : sN most zs p 0 = (0, p, (Vb.vread zs p).2.2) := by unfold sN; rw [if_neg (by simp), if_pos hv]
      rw [e]
      exact r_N_err k a len cap zs p _ most W B H hl (trip _ z.1 z.2 rfl) (by simp [hv])
  · have e : sN most zs p er = (0, p, er) := by unfold sN; rw [if_pos her]
    rw [e]
    exact r_N_stay k _ most p er W B (by simp [her])
theorem r_T (k : Nat) (a : Option Addr) (len cap : Nat) (zs : List Int) (most : Int) (hmost : -9223372036854775808 ≤ most ∧ most ≤ 9223372036854775807) (p er : Int) (W : World) (B : Qt W k (.slice a len cap) p er) (H : Bytes W a len cap zs) (hl : len ≤ 281474976710656) :
    Calls Try.prog 44 #[.pointer (some ⟨k, 0, none⟩), .int .i64 most] W fun e W' => e = .returned (.string (str (sT most zs p er).1)) ∧ Qt W' k (.slice a len cap) (sT most zs p er).2.1 (sT most zs p er).2.2 ∧ W.grownBy W' (some k) := by
  have hz := H.1
  by_cases her : er = 0
  · subst her
    by_cases hv : (Vb.vread zs p).2.2 = 0
    · obtain ⟨q, hq, _, _, hql, hx0, hx1⟩ := vread_ok zs p H.2.2.2.1 hv
      obtain ⟨x, hx⟩ : ∃ x : Nat, (Vb.vread zs p).1 = (x : Int) := ⟨(Vb.vread zs p).1.toNat, by omega⟩
      by_cases hm : most < 0 ∨ most < (Vb.vread zs p).1
      · have e : sT most zs p 0 = ([], p, 3) := by unfold sT; rw [if_neg (by simp), if_neg (by simp [hv]), if_pos hm]
        rw [e]
        exact r_T_big k a len cap zs p _ most _ W B H hl (trip _ rfl rfl hv) hm hmost
      · by_cases hs : (zs.length : Int) - (Vb.vread zs p).2.1 < (Vb.vread zs p).1
        · have e : sT most zs p 0 = ([], p, 10) := by unfold sT; rw [if_neg (by simp), if_neg (by simp [hv]), if_neg hm, if_pos hs]
          rw [e]
          exact r_T_short k a len cap zs p q most x W B H hl (trip _ hx hq hv) (by omega) hmost.2 (by unfold tread; rw [if_neg (by simp [hv]), if_pos hs])
        · have e : sT most zs p 0 = ((zs.drop q).take x, (q : Int) + x, 0) := by unfold sT; rw [if_neg (by simp), if_neg (by simp [hv]), if_neg hm, if_neg hs, hx, hq]; simp
          rw [e]
          exact r_T_ok k a len cap zs p q most _ x _ W B H hl (trip _ hx hq hv) (by omega) hmost.2 (by unfold tread; rw [if_neg (by simp [hv]), if_neg hs, hx, hq]; simp)
    · have z := Vb.vread_err zs p hv
      have e : sT most zs p 0 = ([], p, (Vb.vread zs p).2.2) := by unfold sT; rw [if_neg (by simp), if_pos hv]
      rw [e]
      exact r_T_err k a len cap zs p _ most W B H hl (trip _ z.1 z.2 rfl) (by simp [hv])
  · have e : sT most zs p er = ([], p, er) := by unfold sT; rw [if_pos her]
    rw [e]
    exact r_T_stay k _ most p er W B (by simp [her])

/-! ### The place stays within the bytes -/
theorem sV_bd (zs : List Int) (hb : ∀ y ∈ zs, 0 ≤ y ∧ y ≤ 255) (p er : Int) (hp : 0 ≤ p ∧ p ≤ zs.length) : 0 ≤ (sV zs p er).2.1 ∧ (sV zs p er).2.1 ≤ zs.length := by
  unfold sV
  split
  · exact hp
  · split
    · rename_i h
      obtain ⟨q, hq, _, _, hql, _⟩ := vread_ok zs p hb h
      simp only
      omega
    · exact hp
theorem sN_bd (most : Int) (zs : List Int) (hb : ∀ y ∈ zs, 0 ≤ y ∧ y ≤ 255) (p er : Int) (hp : 0 ≤ p ∧ p ≤ zs.length) : 0 ≤ (sN most zs p er).2.1 ∧ (sN most zs p er).2.1 ≤ zs.length := by
  unfold sN
  split
  · exact hp
  · split
    · exact hp
    · rename_i h
      split
      · exact hp
      · obtain ⟨q, hq, _, _, hql, _⟩ := vread_ok zs p hb (by omega)
        simp only
        omega
theorem sT_bd (most : Int) (zs : List Int) (hb : ∀ y ∈ zs, 0 ≤ y ∧ y ≤ 255) (p er : Int) (hp : 0 ≤ p ∧ p ≤ zs.length) : 0 ≤ (sT most zs p er).2.1 ∧ (sT most zs p er).2.1 ≤ zs.length := by
  unfold sT
  split
  · exact hp
  · split
    · exact hp
    · rename_i h
      split
      · exact hp
      · split
        · exact hp
        · obtain ⟨q, hq, _, _, hql, hx, _⟩ := vread_ok zs p hb (by omega)
          simp only
          omega
theorem sF_bd (n : Nat) (zs : List Int) (p er : Int) (hp : 0 ≤ p ∧ p ≤ zs.length) : 0 ≤ (sF n zs p er).2.1 ∧ (sF n zs p er).2.1 ≤ zs.length := by
  unfold sF
  split
  · exact hp
  · split
    · rename_i h
      unfold Fx.fread at h ⊢
      split at h
      · simp at h
      · rename_i h1
        rw [if_neg h1]
        split at h
        · simp at h
        · rename_i h2
          rw [if_neg h2]
          simp only
          omega
    · exact hp
theorem sF_lt4 (zs : List Int) (hb : ∀ y ∈ zs, 0 ≤ y ∧ y ≤ 255) (p er : Int) : 0 ≤ (sF 4 zs p er).1 ∧ (sF 4 zs p er).1 < 4294967296 := by
  unfold sF
  split
  · simp
  · split
    · exact Fx.fread_lt4 zs p hb
    · simp

/-! ### NewReader -/
set_option maxHeartbeats 1000000 in
theorem new_any (a : Option Addr) (len cap : Nat) (zs : List Int) (W : World) (H : Bytes W a len cap zs) (hl : len ≤ 281474976710656) :
    Calls Try.prog 32 #[.slice a len cap] W fun e W' => ∃ r, e = .returned (.pointer (some ⟨r, 0, none⟩)) ∧ At W' r (.slice (some ⟨W.heap.size, 0, none⟩) len len) 0 0 ∧ Bytes W' (some ⟨W.heap.size, 0, none⟩) len len zs ∧ W.heap.size < r ∧ Below W.heap.size W W' := by
  have HZ := hid H.2.2.2.1
  go_enter Try.func32, Try.ntmps32
  go_wp2_with fail
  refine (room_any a len cap 0 zs _ H (by omega)).mono ?_
  rintro e W1 ⟨rfl, R1, b1⟩
  have hlt := R1.lt.2
  have HR := hid (R1.bytes HZ.out)
  have HB := hid b1
  clear R1 b1 H
  go_wp2
  go_ret
  refine ⟨W1.heap.size, rfl, ?_, bytes_kept HR.out ((Below.refl _ _).alloc (Nat.le_refl _) _), hlt, HB.out.alloc HB.out.size _⟩
  show (W1.heap.push _)[W1.heap.size]? = _
  simp
end Go.Proofs.Ytpinknkdcecajaa.Rs
