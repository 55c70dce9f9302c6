/- Parse. -/
import Derived.Test.YtcjlgjlediihoaaDoorNy
namespace Go.Proofs.YtcjlgjlediihoaaDoor.Rw
open Go.ChangeShapes Go.WideShapes Go.ChangeAt Go.RowKit
open Go.Proofs.YtcjlgjlediihoaaDoor.Ut
open Go.Proofs.YtcjlgjlediihoaaDoor.By
set_option linter.unusedVariables false
set_option linter.unusedSimpArgs false

def pk (a s : ByteArray) : ByteArray := ⟨(Lib.trimPrefix s.data.toList a.data.toList).toArray⟩
def ck (a o s : ByteArray) : ByteArray := ⟨(Lib.trimSuffix (pk a s).data.toList o.data.toList).toArray⟩
def vk (k : Nat) (s : ByteArray) : Nat := vf (ck (fa k) (fo k) s).data.toList 0
def hit (k : Nat) (s : ByteArray) : Prop := nm (fk k) (vk k s : Nat) = (s, 0)
def cur : ByteArray := ⟨#[67, 85, 82, 82, 69, 78, 84]⟩
/-- What Parse answers of a text. -/
def Pz (s : ByteArray) (kk nn ee : Int) : Prop :=
  (s = cur ∧ kk = 4 ∧ nn = 0 ∧ ee = 0) ∨ (s ≠ cur ∧ ((∃ k, k < 4 ∧ hit k s ∧ (∀ j, j < k → ¬ hit j s) ∧ kk = fk k ∧ nn = (vk k s : Nat) ∧ ee = 0) ∨ ((∀ j, j < 4 → ¬ hit j s) ∧ kk = 0 ∧ nn = 0 ∧ ee = 60)))
theorem bne_of (a b : ByteArray) (h : a ≠ b) : (a.toList == b.toList) = false := by
  rw [Lib.toList_data, Lib.toList_data, beq_eq_false_iff_ne]
  intro e
  exact h (ByteArray.ext (Array.toList_inj.1 e))
theorem bne_cur (s : ByteArray) (h : s ≠ cur) : (s.toList == [67, 85, 82, 82, 69, 78, 84]) = false := by
  have h := bne_of s cur h
  rw [Lib.toList_data cur] at h
  exact h
theorem pk_len (a s : ByteArray) : (pk a s).size ≤ s.size := by
  show (Lib.trimPrefix s.data.toList a.data.toList).toArray.size ≤ s.data.size
  rw [List.size_toArray, ← Array.length_toList]
  unfold Lib.trimPrefix
  split <;> simp
theorem ck_len (a o s : ByteArray) : (ck a o s).size ≤ s.size := by
  refine Nat.le_trans ?_ (pk_len a s)
  show (Lib.trimSuffix (pk a s).data.toList o.data.toList).toArray.size ≤ (pk a s).data.size
  rw [List.size_toArray, ← Array.length_toList]
  unfold Lib.trimSuffix
  split <;> simp
set_option maxRecDepth 1000000 in
set_option maxHeartbeats 1000000 in
theorem parse_any (s : ByteArray) (hs : s.size ≤ 281474976710656) (w : World) (T : Hid (Fm w)) (U : Hid (Tb w)) : Calls Tryd.prog 11 #[.string s] w fun e w' => ∃ kk nn ee : Int, e = .returned (.tuple #[.int .i64 kk, .int .i64 nn, .int .i64 ee]) ∧ Hid (Pz s kk nn ee) ∧ Below w.heap.size w w' := by
  have c0 : w.cell? ⟨0, 0, none⟩ = some (.int .i64 1) := T.out 0 _ rfl
  have c1 : w.cell? ⟨0, 1, none⟩ = some (.string ⟨#[]⟩) := T.out 1 _ rfl
  have c2 : w.cell? ⟨0, 2, none⟩ = some (.string ⟨#[46, 108, 111, 103]⟩) := T.out 2 _ rfl
  have c3 : w.cell? ⟨0, 3, none⟩ = some (.int .i64 2) := T.out 3 _ rfl
  have c4 : w.cell? ⟨0, 4, none⟩ = some (.string ⟨#[]⟩) := T.out 4 _ rfl
  have c5 : w.cell? ⟨0, 5, none⟩ = some (.string ⟨#[46, 116, 97, 98]⟩) := T.out 5 _ rfl
  have c6 : w.cell? ⟨0, 6, none⟩ = some (.int .i64 3) := T.out 6 _ rfl
  have c7 : w.cell? ⟨0, 7, none⟩ = some (.string ⟨#[77, 65, 78, 73, 70, 69, 83, 84, 45]⟩) := T.out 7 _ rfl
  have c8 : w.cell? ⟨0, 8, none⟩ = some (.string ⟨#[]⟩) := T.out 8 _ rfl
  have c9 : w.cell? ⟨0, 9, none⟩ = some (.int .i64 5) := T.out 9 _ rfl
  have c10 : w.cell? ⟨0, 10, none⟩ = some (.string ⟨#[]⟩) := T.out 10 _ rfl
  have c11 : w.cell? ⟨0, 11, none⟩ = some (.string ⟨#[46, 116, 109, 112]⟩) := T.out 11 _ rfl
  by_cases hc : s = ⟨#[67, 85, 82, 82, 69, 78, 84]⟩
  · subst hc
    go_enter Tryd.func11, Tryd.ntmps11
    go_wp2_with fail
    go_ret3
    exact ⟨4, 0, 0, rfl, .inl ⟨rfl, rfl, rfl, rfl⟩, Below.refl _ _⟩
  have hch : Hid (s ≠ cur) := hc
  have hcb := bne_cur s hc
  clear hc
  obtain ⟨PP, hPP⟩ : ∃ PP, PP = Pz s := ⟨_, rfl⟩
  rw [← hPP]
  have HP := hid hPP
  clear hPP
  go_enter Tryd.func11, Tryd.ntmps11
  go_wp2_with fail
  clear c0 c1 c2 c3 c4 c5 c6 c7 c8 c9 c10 c11
  go_loopw [13] (fun i wr => ∃ k : Nat, i = .int .i64 (k : Int) ∧ k ≤ 4 ∧ Hid (Below w.heap.size w wr) ∧ Hid (∀ j, j < k → ¬ hit j s)) (fun i _ => match i with | .int _ z => (4 - z).toNat | _ => 0)
  case atStart => exact ⟨0, rfl, by omega, Below.refl _ _, fun j hj => absurd hj (by omega)⟩
  case round =>
    obtain ⟨k, rfl, hkle, B, hno⟩ := hrel
    by_cases hk : k < 4
    · have hix := fma k hk
      have hnk : (k : Int) < 4 := by omega
      have hhit : Hid (hit k s = (nm (fk k) (vk k s : Nat) = (s, 0))) := rfl
      have hvk : Hid (vk k s = vf (ck (fa k) (fo k) s).data.toList 0) := rfl
      obtain ⟨f, hf⟩ : ∃ f, f = fk k := ⟨_, rfl⟩
      rw [← hf] at hix hhit
      generalize fa k = a at hix hvk
      generalize fo k = o at hix hvk
      have hfh := hid hf
      clear hf
      have b1 := box_below wr (.cells #[.int .i64 f, .string a, .string o] 49)
      have p0 : (wr.alloc (.cells #[.int .i64 f, .string a, .string o] 49)).cell? ⟨wr.heap.size, 0, none⟩ = some (.int .i64 f) := cell_three _ _ _ _ _ _ _ rfl
      have p1 : (wr.alloc (.cells #[.int .i64 f, .string a, .string o] 49)).cell? ⟨wr.heap.size, 1, none⟩ = some (.string a) := cell_three _ _ _ _ _ _ _ rfl
      have p2 : (wr.alloc (.cells #[.int .i64 f, .string a, .string o] 49)).cell? ⟨wr.heap.size, 2, none⟩ = some (.string o) := cell_three _ _ _ _ _ _ _ rfl
      have p0h := hid p0
      have d1 := fun d os => cell_regrown p1 d os
      have d2 := fun d os => cell_regrown p2 d os
      have H1 : Hid (∀ W, Calls Tryd.prog 33 #[.string s, .string a] W fun e w' => e = .returned (.string (pk a s)) ∧ Below W.heap.size W w') := fun W => (Sk.trimp_any s a W).mono fun e w' h => ⟨h.1, by rw [h.2]; exact Below.refl _ _⟩
      have H2 : Hid (∀ W, Calls Tryd.prog 32 #[.string (pk a s), .string o] W fun e w' => e = .returned (.string (ck a o s)) ∧ Below W.heap.size W w') := fun W => (Sk.trims_any (pk a s) o W (by have := pk_len a s; omega)).mono fun e w' h => ⟨h.1, by rw [h.2]; exact Below.refl _ _⟩
      have H3 : Hid (∀ W, Calls Tryd.prog 31 #[.string (ck a o s)] W fun e w' => e = .returned (.int .i64 (vk k s : Nat)) ∧ Below W.heap.size W w') := fun W => by
        rw [hvk.out]
        exact value_any (ck a o s) (by have := ck_len a o s; omega) W
      generalize hv : vk k s = v at H3 hhit hvk
      have hvh := hid hv
      clear hv
      generalize pk a s = y at H1 H2
      generalize ck a o s = z at H2 H3 hvk
      clear p0 hvk
      go_wp2_with fail
      refine wp_region_quiet_below (by kernel_rfl) (by kernel_rfl) ?_
      repeat (first | go_big_quiet_step (first | (go_at_call 33; exact Calls.regrown_of (H1.out _)) | (go_at_call 32; exact Calls.regrown_of (H2.out _)) | (go_at_call 31; exact Calls.regrown_of (H3.out _))) | quiet_step (first | (go_at_call 33; exact Calls.regrown_of (H1.out _)) | (go_at_call 32; exact Calls.regrown_of (H2.out _)) | (go_at_call 31; exact Calls.regrown_of (H3.out _))))
      refine wpQuiet_nil ?_
      intro w2 hw2
      have b2 : Hid (Below (wr.alloc (.cells #[.int .i64 f, .string a, .string o] 49)).heap.size (wr.alloc (.cells #[.int .i64 f, .string a, .string o] 49)) w2) := by
        obtain ⟨⟨dq, osq⟩, hw''⟩ := hw2
        rw [hw'']
        exact below_regrown _ dq osq
      clear hw2 p1 p2 d1 d2 H1 H2 H3
      have q0 : w2.cell? ⟨wr.heap.size, 0, none⟩ = some (.int .i64 f) := cell_later b2.out p0h.out
      have b3 : Hid (Below w.heap.size w w2) := B.out.trans ((b1.trans (b2.out.mono b1.size)).mono B.out.size)
      clear b1 b2 p0h B
      have HN := hid (name_any f (v : Int) w2 (T.out.later b3.out) (U.out.later b3.out))
      generalize hR : nm f (v : Int) = R at HN hhit
      obtain ⟨r, re⟩ := R
      clear hR
      go_wp2_with fail
      refine HN.out.mono ?_
      rintro e w3 ⟨rfl, b4⟩
      have b5 : Hid (Below w.heap.size w w3) := b3.out.trans (b4.mono b3.out.size)
      have q1 : w3.cell? ⟨wr.heap.size, 0, none⟩ = some (.int .i64 f) := cell_later b4 q0
      clear HN b4 b3 q0
      have hnext : Hid (¬ (r = s ∧ re = 0) → ∀ j, j < k + 1 → ¬ hit j s) := by
        intro hn j hj
        rcases Nat.lt_or_ge j k with h | h
        · exact hno.out j h
        · have : j = k := by omega
          subst this
          rw [hhit.out]
          intro e
          exact hn ⟨congrArg Prod.fst e, congrArg Prod.snd e⟩
      by_cases hre : re = 0
      · by_cases hrs : r = s
        · have hb : (r.toList == s.toList) = true := by rw [hrs]; exact beq_self_eq_true _
          have hh : Hid (hit k s) := by
            show hit k s
            rw [hhit.out, hrs, hre]
          clear hrs
          go_wp2_with fail
          go_ret3
          exact ⟨f, v, 0, rfl, by rw [HP.out]; exact .inr ⟨hch.out, .inl ⟨k, hk, hh.out, hno.out, hfh.out, by rw [hvh.out], rfl⟩⟩, b5.out⟩
        · have hb := bne_of r s hrs
          have hn := hid (hnext.out (fun h => hrs h.1))
          clear hrs
          go_wp2_with fail
          refine ⟨⟨k + 1, by push_cast; rfl, by omega, b5.out, hn.out⟩, ?_⟩
          show (4 - ((k : Int) + 1)).toNat < (4 - (k : Int)).toNat
          omega
      · have hn := hid (hnext.out (fun h => hre h.2))
        go_wp2_with fail
        refine ⟨⟨k + 1, by push_cast; rfl, by omega, b5.out, hn.out⟩, ?_⟩
        show (4 - ((k : Int) + 1)).toNat < (4 - (k : Int)).toNat
        omega
    · have hnk : ¬ (k : Int) < 4 := by omega
      go_wp2_with fail
      go_ret3
      exact ⟨0, 0, 60, rfl, by rw [HP.out]; exact .inr ⟨hch.out, .inr ⟨fun j hj => hno.out j (by omega), rfl, rfl, rfl⟩⟩, B.out⟩
end Go.Proofs.YtcjlgjlediihoaaDoor.Rw
