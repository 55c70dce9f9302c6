/- Parse of the program and of the document answer alike. -/
import Derived.Test.YtcjlgjlediihoaaDoorRp6
namespace Go.Proofs.YtcjlgjlediihoaaDoor.Rw
open Go.ChangeShapes Go.WideShapes Go.ChangeAt Go.RowKit
open Go.Proofs.YtcjlgjlediihoaaDoor.Ut
open Go.Proofs.YtcjlgjlediihoaaDoor.By
set_option linter.unusedVariables false
set_option linter.unusedSimpArgs false

theorem ds_dig (d : Nat) (h : d < 10) (t : List UInt8) (n : Nat) (hn : n ≤ 2147483647) : ds (UInt8.ofNat (48 + d) :: t) n = ds t (n * 10 + d) := by
  have e := of_dig d h
  rw [ds, e, if_pos (by omega)]
  congr 1
  omega
theorem ds_dec : ∀ (f u : Nat) (t : List UInt8), u ≤ f → u ≤ 2147483647 → ds (Lib.decDigits u ++ t) 0 = ds t u := by
  intro f
  induction f with
  | zero =>
    intro u t hu _
    have : u = 0 := by omega
    subst this
    rw [Lib.decDigits_one (by omega)]
    exact ds_dig 0 (by omega) t 0 (by omega)
  | succ f ih =>
    intro u t hu hm
    by_cases h : u < 10
    · rw [Lib.decDigits_one h]
      have h' := ds_dig u h t 0 (by omega)
      rw [Nat.zero_mul, Nat.zero_add] at h'
      exact h'
    · rw [Lib.decDigits, dif_neg h, List.append_assoc, ih (u / 10) _ (by omega) (by omega)]
      have h' := ds_dig (u % 10) (by omega) t (u / 10) (by omega)
      rw [List.singleton_append, h']
      congr 1
      omega
theorem ds_zeros (t : List UInt8) : ∀ c, ds (Lib.repeatL [48] c ++ t) 0 = ds t 0 := by
  intro c
  induction c with
  | zero => rfl
  | succ c ih =>
    rw [rep_cons, List.cons_append]
    exact (ds_dig 0 (by omega) (Lib.repeatL [48] c ++ t) 0 (by omega)).trans ih
def nd (c : UInt8) : Bool := decide (¬ (48 ≤ c.toNat ∧ c.toNat ≤ 57))
theorem ds_skip (t : List UInt8) (n : Nat) : ∀ l : List UInt8, l.all nd = true → ds (l ++ t) n = ds t n := by
  intro l
  induction l with
  | nil => intro _; rfl
  | cons c l ih =>
    intro h
    rw [List.all_cons, Bool.and_eq_true] at h
    have hc : ¬ (48 ≤ c.toNat ∧ c.toNat ≤ 57) := of_decide_eq_true h.1
    rw [List.cons_append, ds, if_neg (fun e => hc e.1), ih h.2]
theorem fa_nd (k : Nat) : (fa k).data.toList.all nd = true := by
  unfold fa
  split <;> decide
theorem fo_nd (k : Nat) : (fo k).data.toList.all nd = true := by
  unfold fo
  split <;> decide
theorem ds_fmo (k n : Nat) (h : n ≤ 2147483647) : ds (fmo k n).data.toList 0 = n := by
  rw [fmo_list, ds_skip _ _ _ (fa_nd k), pz, List.append_assoc, ds_zeros, ds_dec n n _ (by omega) h]
  have := ds_skip [] n _ (fo_nd k)
  rw [List.append_nil] at this
  rw [this, ds]
theorem fk_nat (k : Nat) (hk : k < 4) : ∃ j : Nat, 1 ≤ j ∧ j ≤ 5 ∧ fk k = (j : Int) := by
  match k, hk with
  | 0, _ => exact ⟨1, by omega, by omega, rfl⟩
  | 1, _ => exact ⟨2, by omega, by omega, rfl⟩
  | 2, _ => exact ⟨3, by omega, by omega, rfl⟩
  | 3, _ => exact ⟨5, by omega, by omega, rfl⟩
theorem alike (s : ByteArray) (k n e k' n' e' : Int) (h : Pz s k n e) (h' : Rz s k' n' e') : k = k' ∧ n = n' ∧ e = e' := by
  rcases h' with ⟨j, hj1, hj5, hnm, rfl, rfl, rfl⟩ | ⟨hno, rfl, rfl, rfl⟩
  · have hp : Pz (nm (j : Int) ((ds s.data.toList 0 : Nat) : Int)).1 k n e := by rw [hnm]; exact h
    exact back _ _ (by rw [hnm]) _ _ _ hp
  · rcases h with ⟨rfl, _⟩ | ⟨_, ⟨j, hj4, hit', _⟩ | ⟨_, rfl, rfl, rfl⟩⟩
    · exact absurd (show nm ((4 : Nat) : Int) (ds cur.data.toList 0 : Nat) = (cur, 0) by decide) (hno 4 (by omega) (by omega))
    · exfalso
      unfold hit at hit'
      rcases nm_is _ _ (by rw [hit']) with ⟨h4, _⟩ | ⟨k2, n2, hk2, h1, h2, hkk, hn2, e2⟩
      · exact fk_ne4 j h4
      · rw [hit'] at e2
        have es : s = fmo k2 n2 := congrArg Prod.fst e2
        obtain ⟨m, m1, m5, hm⟩ := fk_nat k2 hk2
        refine hno m m1 m5 ?_
        rw [es, ds_fmo k2 n2 h2, ← hm]
        exact nm_at k2 hk2 n2 h1 h2
    · exact ⟨rfl, rfl, rfl⟩
theorem has_nl (s : ByteArray) (q : Nat) (hq : s.size = q + 1) : Lib.hasSuffix s.data.toList [10] = decide (bt s q = 10) := by
  obtain ⟨c, e, hc⟩ := drop_bt s q (by omega)
  have hlen : s.data.toList.length = q + 1 := by rw [← Lib.size_eq]; exact hq
  have e2 : s.data.toList.drop (q + 1) = [] := List.drop_eq_nil_of_le (by omega)
  rw [← Lib.hasSuffix_of_drop, hlen]
  show (decide (1 ≤ q + 1) && (s.data.toList.drop q == [10])) = _
  rw [e, e2, ← hc, decide_eq_true (by omega), Bool.true_and]
  by_cases h : c = 10
  · subst h; rfl
  · have h2 : ¬ c.toNat = 10 := fun e => h (UInt8.toNat_inj.1 e)
    rw [decide_eq_false h2, beq_eq_false_iff_ne]
    intro e
    exact h (List.cons.inj e).1
theorem cut_nl (s : ByteArray) (q : Nat) (hq : s.size = q + 1) (h : Lib.hasSuffix s.data.toList [10] = true) : s.extract 0 q = ⟨(Lib.trimSuffix s.data.toList [10]).toArray⟩ := by
  have h1 : (⟨#[10]⟩ : ByteArray).size = 1 := rfl
  have hr := Lib.hasSuffix_raw s ⟨#[10]⟩
  rw [show (⟨#[10]⟩ : ByteArray).data.toList = [10] from rfl, h, Bool.and_eq_true] at hr
  have := Lib.trimSuffix_hit s ⟨#[10]⟩ (by omega) hr.2
  rw [h1, hq, Nat.add_sub_cancel] at this
  exact this.symm
/-- What Named answers. -/
def Nz (s : ByteArray) (a b : Int) : Prop := (Lib.hasSuffix s.data.toList [10] = false ∧ a = 0 ∧ b = 60) ∨ (Lib.hasSuffix s.data.toList [10] = true ∧ ∃ kk nn ee : Int, Rz ⟨(Lib.trimSuffix s.data.toList [10]).toArray⟩ kk nn ee ∧ ((ee = 0 ∧ kk = 3 ∧ a = nn ∧ b = 0) ∨ (¬ (ee = 0 ∧ kk = 3) ∧ a = 0 ∧ b = 60)))
set_option maxRecDepth 1000000 in
set_option maxHeartbeats 1000000 in
theorem rnamed_any (s : ByteArray) (hs : s.size ≤ 281474976710656) (w : World) : Calls Tryd.prog 16 #[.string s] w fun e w' => ∃ a b : Int, e = .returned (.tuple #[.int .i64 a, .int .i64 b]) ∧ Hid (Nz s a b) ∧ Below w.heap.size w w' := by
  obtain ⟨PP, hPP⟩ : ∃ PP, PP = Nz s := ⟨_, rfl⟩
  rw [← hPP]
  have HP := hid hPP
  clear hPP
  by_cases h0 : s.size < 1
  · have hno : Hid (Lib.hasSuffix s.data.toList [10] = false) := by
      show _ = _
      have : s.data.toList = [] := List.eq_nil_of_length_eq_zero (by rw [← Lib.size_eq]; omega)
      rw [this]
      rfl
    go_enter Tryd.func16, Tryd.ntmps16
    go_wp2_with fail
    go_ret2
    exact ⟨0, 60, rfl, by rw [HP.out]; exact .inl ⟨hno.out, rfl, rfl⟩, Below.refl _ _⟩
  · obtain ⟨q, hq⟩ : ∃ q, s.size = q + 1 := ⟨s.size - 1, by omega⟩
    have hh := hid (has_nl s q hq)
    have hqs : q < s.size := by omega
    have hbt := bt_eq s q hqs
    have hsz : (s.size : Int) - 1 = (q : Int) := by omega
    have hc := hid (cut_nl s q hq)
    have hlx : (s.extract 0 q).size ≤ 281474976710656 := by rw [ByteArray.size_extract]; omega
    have HR := hid (rparse_any (s.extract 0 q) hlx w)
    clear hlx
    have hqh := hid hq
    clear hq
    generalize bt s q = b at hbt hh
    by_cases hb : (b : Int) = 10
    · have hy : Hid (Lib.hasSuffix s.data.toList [10] = true) := by
        show _ = _
        rw [hh.out, decide_eq_true (by omega)]
      have hcc := hid (hc.out hy.out)
      clear hc hh
      go_enter Tryd.func16, Tryd.ntmps16
      go_wp2_with fail
      refine HR.out.mono ?_
      rintro e w1 ⟨kk, nn, ee, rfl, hz, b1⟩
      have b1h := hid b1
      have hz' : Hid (Rz ⟨(Lib.trimSuffix s.data.toList [10]).toArray⟩ kk nn ee) := by
        rw [← hcc.out]
        exact hz.out
      clear HR b1 hz hcc
      by_cases he : ee = 0
      · by_cases hk : kk = 3
        · have hp : Hid (PP nn 0) := by
            show PP nn 0
            rw [HP.out]
            exact .inr ⟨hy.out, kk, nn, ee, hz'.out, .inl ⟨he, hk, rfl, rfl⟩⟩
          go_wp2_with fail
          go_ret2
          exact ⟨nn, 0, rfl, hp.out, b1h.out⟩
        · have hp : Hid (PP 0 60) := by
            show PP 0 60
            rw [HP.out]
            exact .inr ⟨hy.out, kk, nn, ee, hz'.out, .inr ⟨fun h => hk h.2, rfl, rfl⟩⟩
          go_wp2_with fail
          go_ret2
          exact ⟨0, 60, rfl, hp.out, b1h.out⟩
      · have hp : Hid (PP 0 60) := by
          show PP 0 60
          rw [HP.out]
          exact .inr ⟨hy.out, kk, nn, ee, hz'.out, .inr ⟨fun h => he h.1, rfl, rfl⟩⟩
        go_wp2_with fail
        go_ret2
        exact ⟨0, 60, rfl, hp.out, b1h.out⟩
    · have hbn : ((b : Int) != 10) = true := by simp only [bne_iff_ne]; exact hb
      have hy : Hid (Lib.hasSuffix s.data.toList [10] = false) := by
        show _ = _
        rw [hh.out, decide_eq_false (by omega)]
      clear hc hh HR hb
      go_enter Tryd.func16, Tryd.ntmps16
      go_wp2_with fail
      go_ret2
      exact ⟨0, 60, rfl, by rw [HP.out]; exact .inl ⟨hy.out, rfl, rfl⟩, Below.refl _ _⟩
theorem named_alike (s : ByteArray) (kk nn ee a b : Int) (h : Pz ⟨(Lib.trimSuffix s.data.toList [10]).toArray⟩ kk nn ee) (h' : Nz s a b) : (if Lib.hasSuffix s.data.toList [10] = true ∧ ee = 0 ∧ kk = 3 then Value.tuple #[.int .i64 nn, .int .i64 0] else .tuple #[.int .i64 0, .int .i64 60]) = .tuple #[.int .i64 a, .int .i64 b] := by
  rcases h' with ⟨hf, rfl, rfl⟩ | ⟨ht, k2, n2, e2, hz, hcase⟩
  · rw [if_neg (fun e => by rw [hf] at e; cases e.1)]
  · obtain ⟨rfl, rfl, rfl⟩ := alike _ _ _ _ _ _ _ h hz
    rcases hcase with ⟨h0, h3, rfl, rfl⟩ | ⟨hn, rfl, rfl⟩
    · rw [if_pos ⟨ht, h0, h3⟩]
    · rw [if_neg (fun e => hn e.2)]
end Go.Proofs.YtcjlgjlediihoaaDoor.Rw
