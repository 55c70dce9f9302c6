/- The document's Parse and Named. -/
import Derived.Test.YtcjlgjlediihoaaDoorRn
namespace Go.Proofs.YtcjlgjlediihoaaDoor.Rw
open Go.ChangeShapes Go.WideShapes Go.ChangeAt Go.RowKit
open Go.Proofs.YtcjlgjlediihoaaDoor.Ut
open Go.Proofs.YtcjlgjlediihoaaDoor.By
set_option linter.unusedVariables false
set_option linter.unusedSimpArgs false

/-- The digits that stand in a text. -/
def ds : List UInt8 → Nat → Nat
  | [], n => n
  | c :: t, n => if (48 ≤ c.toNat ∧ c.toNat ≤ 57) ∧ n ≤ 2147483647 then ds t (n * 10 + (c.toNat - 48)) else ds t n
theorem ds_on (s : ByteArray) (p n : Nat) (h : p < s.size) (hb : (48 ≤ bt s p ∧ bt s p ≤ 57) ∧ n ≤ 2147483647) : ds (s.data.toList.drop p) n = ds (s.data.toList.drop (p + 1)) (n * 10 + (bt s p - 48)) := by
  obtain ⟨c, e, hc⟩ := drop_bt s p h
  rw [e, ds, hc, if_pos hb]
theorem ds_no (s : ByteArray) (p n : Nat) (h : p < s.size) (hb : ¬ ((48 ≤ bt s p ∧ bt s p ≤ 57) ∧ n ≤ 2147483647)) : ds (s.data.toList.drop p) n = ds (s.data.toList.drop (p + 1)) n := by
  obtain ⟨c, e, hc⟩ := drop_bt s p h
  rw [e, ds, hc, if_neg hb]
theorem ds_end (s : ByteArray) (p n : Nat) (h : ¬ p < s.size) : ds (s.data.toList.drop p) n = n := by
  have : s.data.toList.drop p = [] := List.drop_eq_nil_of_le (by rw [Array.length_toList]; exact Nat.le_of_not_lt h)
  rw [this, ds]
/-- What the document's Parse answers: the first kind of which the text is the name. -/
def Rz (s : ByteArray) (kk nn ee : Int) : Prop :=
  (∃ k : Nat, 1 ≤ k ∧ k ≤ 5 ∧ nm (k : Int) (ds s.data.toList 0 : Nat) = (s, 0) ∧ kk = (k : Int) ∧ nn = (ds s.data.toList 0 : Nat) ∧ ee = 0) ∨ ((∀ k : Nat, 1 ≤ k → k ≤ 5 → nm (k : Int) (ds s.data.toList 0 : Nat) ≠ (s, 0)) ∧ kk = 0 ∧ nn = 0 ∧ ee = 60)
set_option maxRecDepth 1000000 in
set_option maxHeartbeats 1000000 in
theorem rparse_any (s : ByteArray) (hs : s.size ≤ 281474976710656) (w : World) : Calls Tryd.prog 12 #[.string s] w fun e w' => ∃ kk nn ee : Int, e = .returned (.tuple #[.int .i64 kk, .int .i64 nn, .int .i64 ee]) ∧ Hid (Rz s kk nn ee) ∧ Below w.heap.size w w' := by
  obtain ⟨PP, hPP⟩ : ∃ PP, PP = Rz s := ⟨_, rfl⟩
  rw [← hPP]
  have HP := hid hPP
  clear hPP
  obtain ⟨V, hV⟩ : ∃ V : Nat, V = ds s.data.toList 0 := ⟨_, rfl⟩
  have HV := hid hV
  clear hV
  go_enter Tryd.func12, Tryd.ntmps12
  go_wp2_with fail
  go_loopw [5, 6] (fun a b wr => ∃ (n p : Nat), a = .int .i64 (n : Int) ∧ b = .int .i64 (p : Int) ∧ wr = w ∧ n ≤ 21474836479 ∧ p ≤ s.size ∧ Hid (V = ds (s.data.toList.drop p) n)) (fun _ b _ => match b with | .int _ z => s.size - z.toNat | _ => 0)
  case atStart => exact ⟨0, 0, rfl, rfl, rfl, by omega, by omega, by show _ = _; rw [List.drop_zero]; exact HV.out⟩
  case round =>
    obtain ⟨n, p, rfl, rfl, rfl, hn, hp, hi⟩ := hrel
    by_cases hps : p < s.size
    · have hbt := bt_eq s p hps
      have hb2 := bt_lt s p
      have HN := hid (ds_on s p n hps)
      have HO := hid (ds_no s p n hps)
      generalize bt s p = b at hbt hb2 HN HO
      by_cases c1 : 48 ≤ (b : Int)
      · by_cases c2 : (b : Int) ≤ 57
        · by_cases c3 : (n : Int) ≤ 2147483647
          · obtain ⟨d, hd⟩ : ∃ d : Nat, d = b - 48 := ⟨_, rfl⟩
            have hbd : (b : Int) - 48 = (d : Int) := by omega
            have hd9 : d ≤ 9 := by omega
            have hdh := hid hd
            clear hd
            go_wp2_with fail
            refine ⟨⟨n * 10 + d, p + 1, by push_cast; rfl, by push_cast; rfl, trivial, by omega, by omega, ?_⟩, ?_⟩
            · show _ = _
              rw [hi.out, HN.out (by omega), ← hdh.out]
            · show s.size - ((p : Int) + 1).toNat < s.size - (p : Int).toNat
              omega
          · go_wp2_with fail
            refine ⟨⟨n, p + 1, rfl, by push_cast; rfl, trivial, hn, by omega, ?_⟩, ?_⟩
            · show _ = _
              rw [hi.out, HO.out (by omega)]
            · show s.size - ((p : Int) + 1).toNat < s.size - (p : Int).toNat
              omega
        · go_wp2_with fail
          refine ⟨⟨n, p + 1, rfl, by push_cast; rfl, trivial, hn, by omega, ?_⟩, ?_⟩
          · show _ = _
            rw [hi.out, HO.out (by omega)]
          · show s.size - ((p : Int) + 1).toNat < s.size - (p : Int).toNat
            omega
      · go_wp2_with fail
        refine ⟨⟨n, p + 1, rfl, by push_cast; rfl, trivial, hn, by omega, ?_⟩, ?_⟩
        · show _ = _
          rw [hi.out, HO.out (by omega)]
        · show s.size - ((p : Int) + 1).toNat < s.size - (p : Int).toNat
          omega
    · have hiv : V = n := by rw [hi.out, ds_end s p n hps]
      subst hiv
      clear hi
      go_wp2_with fail
      go_loopw [7] (fun a w2 => ∃ k : Nat, a = .int .i64 (k : Int) ∧ 1 ≤ k ∧ k ≤ 6 ∧ Hid (Below wr.heap.size wr w2) ∧ Hid (∀ j : Nat, 1 ≤ j → j < k → nm (j : Int) (V : Int) ≠ (s, 0))) (fun a _ => match a with | .int _ z => (6 - z).toNat | _ => 0)
      case atStart => exact ⟨1, rfl, by omega, by omega, Below.refl _ _, fun j h1 h2 => absurd h2 (by omega)⟩
      case round =>
        obtain ⟨k, rfl, hk1, hk6, B, hno⟩ := hrel
        by_cases hk : (k : Int) ≤ 5
        · have HN := hid (rname_any (k : Int) (V : Int) wr)
          have hnext : Hid (nm (k : Int) (V : Int) ≠ (s, 0) → ∀ j : Nat, 1 ≤ j → j < k + 1 → nm (j : Int) (V : Int) ≠ (s, 0)) := by
            intro hn j h1 h2
            rcases Nat.lt_or_ge j k with h | h
            · exact hno.out j h1 h
            · have : j = k := by omega
              subst this
              exact hn
          have hhit : Hid (nm (k : Int) (V : Int) = (s, 0) → PP (k : Int) (V : Int) 0) := by
            intro h
            rw [HP.out]
            exact .inl ⟨k, hk1, by omega, by rw [← HV.out]; exact h, rfl, by rw [← HV.out], rfl⟩
          generalize nm (k : Int) (V : Int) = R at HN hnext hhit
          obtain ⟨r, re⟩ := R
          go_wp2_with fail
          refine HN.out.mono ?_
          rintro e w3 ⟨rfl, b3⟩
          have c3 := hid (B.out.trans (b3.mono B.out.size))
          clear HN b3 B
          by_cases hre : re = 0
          · by_cases hrs : r = s
            · have hb : (r.toList == s.toList) = true := by rw [hrs]; exact beq_self_eq_true _
              have hh := hid (hhit.out (by rw [hrs, hre]))
              clear hrs
              go_wp2_with fail
              go_ret3
              exact ⟨k, V, 0, rfl, hh.out, c3.out⟩
            · have hb := bne_of r s hrs
              have hn2 := hid (hnext.out (fun e => hrs (congrArg Prod.fst e)))
              clear hrs
              go_wp2_with fail
              refine ⟨⟨k + 1, by push_cast; rfl, by omega, by omega, c3.out, hn2.out⟩, ?_⟩
              show (6 - ((k : Int) + 1)).toNat < (6 - (k : Int)).toNat
              omega
          · have hn2 := hid (hnext.out (fun e => hre (congrArg Prod.snd e)))
            go_wp2_with fail
            refine ⟨⟨k + 1, by push_cast; rfl, by omega, by omega, c3.out, hn2.out⟩, ?_⟩
            show (6 - ((k : Int) + 1)).toNat < (6 - (k : Int)).toNat
            omega
        · go_wp2_with fail
          go_ret3
          exact ⟨0, 0, 60, rfl, by rw [HP.out]; exact .inr ⟨fun j h1 h2 => by rw [← HV.out]; exact hno.out j h1 (by omega), rfl, rfl, rfl⟩, B.out⟩
end Go.Proofs.YtcjlgjlediihoaaDoor.Rw
