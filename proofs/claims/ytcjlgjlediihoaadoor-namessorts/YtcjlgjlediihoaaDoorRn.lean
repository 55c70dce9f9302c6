/- The document's digits, padded, Name, Current. -/
import Derived.Test.YtcjlgjlediihoaaDoorBk
namespace Go.Proofs.YtcjlgjlediihoaaDoor.Rw
open Go.ChangeShapes Go.WideShapes Go.ChangeAt Go.RowKit
open Go.Proofs.YtcjlgjlediihoaaDoor.Ut
open Go.Proofs.YtcjlgjlediihoaaDoor.By
set_option linter.unusedVariables false
set_option linter.unusedSimpArgs false

/-- How far the document's digits are. -/
def dgi (n m : Nat) (S : List UInt8) : Prop := (if m = 0 then S else Lib.decDigits m ++ S) = Lib.decDigits n
theorem dgi_next (n m : Nat) (S : List UInt8) (hm : m ≠ 0) (h : dgi n m S) : dgi n (m / 10) (UInt8.ofNat (48 + m % 10) :: S) := by
  unfold dgi at h ⊢
  rw [if_neg hm] at h
  by_cases h10 : m < 10
  · rw [if_pos (by omega), ← h, Lib.decDigits_one h10, Nat.mod_eq_of_lt h10]
    rfl
  · rw [if_neg (by omega), ← h]
    conv => rhs; rw [Lib.decDigits, dif_neg h10]
    rw [List.append_assoc]
    rfl
theorem dgi_len (n m : Nat) (S : List UInt8) (hn : n ≤ 2147483647) (h : dgi n m S) : S.length ≤ 21 := by
  have hl := Lib.itoa_length_le (n : Int) (by omega) (by omega)
  rw [Lib.itoa_nonneg, ← h] at hl
  by_cases hm : m = 0
  · rw [if_pos hm] at hl; exact hl
  · rw [if_neg hm, List.length_append] at hl; omega
theorem one_str (d : Nat) (h : d < 10) : (str [(48 + d : Int)]).data.toList = [UInt8.ofNat (48 + d)] := by
  revert d
  decide
set_option maxRecDepth 1000000 in
set_option maxHeartbeats 1000000 in
theorem rdigits_any (n : Nat) (h1 : 1 ≤ n) (hn : n ≤ 2147483647) (w : World) : Calls Tryd.prog 49 #[.int .i64 (n : Int)] w fun e w' => e = .returned (.string ⟨(Lib.decDigits n).toArray⟩) ∧ Below w.heap.size w w' := by
  obtain ⟨D, hD⟩ : ∃ D : ByteArray, D = ⟨(Lib.decDigits n).toArray⟩ := ⟨_, rfl⟩
  rw [← hD]
  have HD := hid hD
  clear hD
  go_enter Tryd.func49, Tryd.ntmps49
  go_wp2_with fail
  go_loopw [0, 3] (fun a b wr => ∃ (m : Nat) (s : ByteArray), a = .int .i64 (m : Int) ∧ b = .string s ∧ m ≤ 2147483647 ∧ Hid (dgi n m s.data.toList) ∧ Hid (Below w.heap.size w wr)) (fun a _ _ => match a with | .int _ z => z.toNat | _ => 0)
  case atStart => exact ⟨n, ⟨#[]⟩, rfl, rfl, hn, by show dgi _ _ _; unfold dgi; rw [if_neg (by omega)]; exact List.append_nil _, Below.refl _ _⟩
  case round =>
    obtain ⟨m, s, rfl, rfl, hm, hi, B⟩ := hrel
    have hl := dgi_len n m _ hn hi.out
    have hsz : s.size ≤ 21 := by rw [Lib.size_eq]; exact hl
    clear hl
    by_cases h0 : 0 < m
    · have hnx := hid (dgi_next n m _ (by omega) hi.out)
      obtain ⟨d, hd⟩ : ∃ d : Nat, d = m % 10 := ⟨_, rfl⟩
      have hd9 : d < 10 := by omega
      have hrem : (m : Int).tmod 10 = (d : Int) := by rw [hd]; rfl
      have hquo : (m : Int).tdiv 10 = ((m / 10 : Nat) : Int) := rfl
      have hone := hid (one_str d hd9)
      rw [← hd] at hnx
      clear hd
      have hone1 : (str [(48 + d : Int)]).size = 1 := by rw [Lib.size_eq, hone.out]; rfl
      have hcv := conv_run (wr.alloc (.cells #[.int .u8 (48 + (d : Int))] 5)) (some ⟨wr.heap.size, 0, none⟩) 1 1 [(48 + d : Int)] rfl (fun e => by simp at e) (fun x hx i hi => by
        simp at hx
        subst hx
        obtain rfl : i = 0 := by omega
        simp [Addr.add])
      generalize str [(48 + d : Int)] = o at hcv hone hone1
      have b1 := hid (box_below wr (.cells #[.int .u8 (48 + (d : Int))] 5))
      generalize hq : m / 10 = q at hquo hnx
      have hqm : q < m := by omega
      clear hq
      go_wp2_with fail
      refine ⟨⟨q, o ++ s, rfl, rfl, by omega, ?_, B.out.trans (b1.out.mono B.out.size)⟩, ?_⟩
      · show dgi _ _ _
        rw [ByteArray.data_append, Array.toList_append, hone.out]
        exact hnx.out
      · show ((q : Int)).toNat < ((m : Int)).toNat
        omega
    · have hm0 : m = 0 := by omega
      subst hm0
      have hi' := hi.out
      unfold dgi at hi'
      rw [if_pos rfl] at hi'
      have hsD : Hid (s = D) := by
        show s = D
        rw [HD.out, ← hi']
      have hne : (s.toList == ([] : List UInt8)) = false := by
        rw [Lib.toList_data, hi', beq_eq_false_iff_ne]
        obtain ⟨d, _, hl⟩ := dec_last n
        intro e
        rw [e] at hl
        cases hl
      clear hi'
      go_wp2_with fail
      go_ret
      exact ⟨by rw [← hsD.out]; rfl, B.out⟩
theorem rep_cons (c : Nat) : Lib.repeatL [48] (c + 1) = 48 :: Lib.repeatL [48] c := by
  rw [Nat.add_comm, Lib.repeatL_add, Lib.repeatL_one]
  rfl
set_option maxRecDepth 1000000 in
set_option maxHeartbeats 1000000 in
theorem padded_any (n : Nat) (h1 : 1 ≤ n) (hn : n ≤ 2147483647) (w : World) : Calls Tryd.prog 30 #[.int .i64 (n : Int)] w fun e w' => e = .returned (.string ⟨(pz n).toArray⟩) ∧ Below w.heap.size w w' := by
  have HI := hid (rdigits_any n h1 hn w)
  have hl : (Lib.decDigits n).length ≤ 21 := by
    have hl := Lib.itoa_length_le (n : Int) (by omega) (by omega)
    rw [Lib.itoa_nonneg] at hl
    exact hl
  obtain ⟨D, hD⟩ : ∃ D : ByteArray, D = ⟨(pz n).toArray⟩ := ⟨_, rfl⟩
  rw [← hD]
  have HD := hid hD
  clear hD
  obtain ⟨x, hx⟩ : ∃ x : ByteArray, x = ⟨(Lib.decDigits n).toArray⟩ := ⟨_, rfl⟩
  rw [← hx] at HI
  have hxh := hid hx
  clear hx
  obtain ⟨L, hL⟩ : ∃ L, L = (Lib.decDigits n).length := ⟨_, rfl⟩
  rw [← hL] at hl
  have hLh := hid hL
  clear hL
  have h10 : (⟨#[48]⟩ : ByteArray).size = 1 := rfl
  go_enter Tryd.func30, Tryd.ntmps30
  go_wp2_with fail
  refine HI.out.mono ?_
  rintro e w1 ⟨rfl, b1⟩
  have b1h := hid b1
  clear HI b1
  go_wp2_with fail
  go_loopw [3] (fun a wr => ∃ (j : Nat) (s : ByteArray), a = .string s ∧ wr = w1 ∧ s.size = j + L ∧ (j = 0 ∨ j + L ≤ 6) ∧ Hid (s.data.toList = Lib.repeatL [48] j ++ Lib.decDigits n)) (fun a _ => match a with | .string s => 6 - s.size | _ => 0)
  case atStart => exact ⟨0, x, rfl, rfl, by rw [Lib.size_eq, hxh.out, hLh.out]; simp, .inl rfl, by rw [hxh.out]; rfl⟩
  case round =>
    obtain ⟨j, s, rfl, rfl, hs, hj, hi⟩ := hrel
    by_cases h6 : s.size < 6
    · have hs21 : s.size ≤ 21 := by omega
      go_wp2_with fail
      refine ⟨⟨j + 1, ⟨#[48]⟩ ++ s, rfl, trivial, ?_, .inr (by omega), ?_⟩, ?_⟩
      · rw [ByteArray.size_append, h10, hs]; omega
      · show _ = _
        rw [ByteArray.data_append, Array.toList_append, hi.out, rep_cons]
        rfl
      · show 6 - ((⟨#[48]⟩ : ByteArray) ++ s).size < 6 - s.size
        rw [ByteArray.size_append, h10]
        omega
    · have hsD : Hid (s = D) := by
        show s = D
        have hjj : j = 6 - L := by omega
        rw [HD.out, pz, ← hLh.out, ← hjj, ← hi.out]
      go_wp2_with fail
      go_ret
      exact ⟨by rw [← hsD.out]; rfl, b1h.out⟩
theorem emp_app (x : ByteArray) : (⟨#[]⟩ : ByteArray) ++ x = x := by
  apply ByteArray.ext
  rw [ByteArray.data_append]
  simp
theorem app_emp (x : ByteArray) : x ++ (⟨#[]⟩ : ByteArray) = x := by
  apply ByteArray.ext
  rw [ByteArray.data_append]
  simp
theorem nm_4 (number : Int) (h : ¬ number = 0) : nm 4 number = (⟨#[]⟩, 60) := by
  unfold nm
  rw [if_neg (fun e => h e.2)]
  split
  · rfl
  · rfl
set_option maxRecDepth 1000000 in
set_option maxHeartbeats 1000000 in
theorem rname_any (kind number : Int) (w : World) : Calls Tryd.prog 10 #[.int .i64 kind, .int .i64 number] w fun e w' => e = .returned (.tuple #[.string (nm kind number).1, .int .i64 (nm kind number).2]) ∧ Below w.heap.size w w' := by
  by_cases h4 : kind = 4
  · subst h4
    by_cases h0 : number = 0
    · subst h0
      go_enter Tryd.func10, Tryd.ntmps10
      go_wp2_with fail
      go_ret2
      exact ⟨rfl, Below.refl _ _⟩
    · have hr := hid (nm_4 number h0)
      generalize nm 4 number = R at hr
      go_enter Tryd.func10, Tryd.ntmps10
      go_wp2_with fail
      go_ret2
      exact ⟨by rw [hr.out]; rfl, Below.refl _ _⟩
  · by_cases hn : number < 1 ∨ 2147483647 < number
    · have hr : Hid (nm kind number = (⟨#[]⟩, 60)) := by
        show _ = _
        unfold nm
        rw [if_neg (fun e => h4 e.1), if_pos hn]
      generalize nm kind number = R at hr
      by_cases h1 : number < 1
      · clear hn
        go_enter Tryd.func10, Tryd.ntmps10
        go_wp2_with fail
        go_ret2
        exact ⟨by rw [hr.out]; rfl, Below.refl _ _⟩
      · have h2 : 2147483647 < number := by omega
        clear hn
        go_enter Tryd.func10, Tryd.ntmps10
        go_wp2_with fail
        go_ret2
        exact ⟨by rw [hr.out]; rfl, Below.refl _ _⟩
    · obtain ⟨n, rfl⟩ : ∃ n : Nat, number = n := ⟨number.toNat, by omega⟩
      have h1 : ¬ (n : Int) < 1 := by omega
      have h2 : ¬ 2147483647 < (n : Int) := by omega
      clear hn
      have HP := hid (padded_any n (by omega) (by omega) w)
      have hpl := pz_len n (by omega)
      by_cases k1 : kind = 1
      · have hr : Hid (nm kind (n : Int) = (fmo 0 n, 0)) := by
          rw [k1]
          exact nm_at 0 (by omega) n (by omega) (by omega)
        have hf : Hid (fmo 0 n = ⟨(pz n).toArray⟩ ++ fo 0) := (show (⟨#[]⟩ : ByteArray) ++ ⟨(pz n).toArray⟩ ++ fo 0 = _ by rw [emp_app])
        generalize nm kind (n : Int) = R at hr
        generalize (⟨(pz n).toArray⟩ : ByteArray) = x at HP hpl hf
        go_enter Tryd.func10, Tryd.ntmps10
        go_wp2_with fail
        refine HP.out.mono ?_
        rintro e w1 ⟨rfl, b1⟩
        have b1h := hid b1
        clear HP b1
        go_wp2_with fail
        go_ret2
        exact ⟨by rw [hr.out, hf.out]; rfl, b1h.out⟩
      by_cases k2 : kind = 2
      · have hr : Hid (nm kind (n : Int) = (fmo 1 n, 0)) := by
          rw [k2]
          exact nm_at 1 (by omega) n (by omega) (by omega)
        have hf : Hid (fmo 1 n = ⟨(pz n).toArray⟩ ++ fo 1) := (show (⟨#[]⟩ : ByteArray) ++ ⟨(pz n).toArray⟩ ++ fo 1 = _ by rw [emp_app])
        generalize nm kind (n : Int) = R at hr
        generalize (⟨(pz n).toArray⟩ : ByteArray) = x at HP hpl hf
        go_enter Tryd.func10, Tryd.ntmps10
        go_wp2_with fail
        refine HP.out.mono ?_
        rintro e w1 ⟨rfl, b1⟩
        have b1h := hid b1
        clear HP b1
        go_wp2_with fail
        go_ret2
        exact ⟨by rw [hr.out, hf.out]; rfl, b1h.out⟩
      by_cases k5 : kind = 5
      · have hr : Hid (nm kind (n : Int) = (fmo 3 n, 0)) := by
          rw [k5]
          exact nm_at 3 (by omega) n (by omega) (by omega)
        have hf : Hid (fmo 3 n = ⟨(pz n).toArray⟩ ++ fo 3) := (show (⟨#[]⟩ : ByteArray) ++ ⟨(pz n).toArray⟩ ++ fo 3 = _ by rw [emp_app])
        generalize nm kind (n : Int) = R at hr
        generalize (⟨(pz n).toArray⟩ : ByteArray) = x at HP hpl hf
        go_enter Tryd.func10, Tryd.ntmps10
        go_wp2_with fail
        refine HP.out.mono ?_
        rintro e w1 ⟨rfl, b1⟩
        have b1h := hid b1
        clear HP b1
        go_wp2_with fail
        go_ret2
        exact ⟨by rw [hr.out, hf.out]; rfl, b1h.out⟩
      by_cases k3 : kind = 3
      · have hr : Hid (nm kind (n : Int) = (fmo 2 n, 0)) := by
          rw [k3]
          exact nm_at 2 (by omega) n (by omega) (by omega)
        have hf : Hid (fmo 2 n = fa 2 ++ ⟨(pz n).toArray⟩) := (show fa 2 ++ ⟨(pz n).toArray⟩ ++ (⟨#[]⟩ : ByteArray) = _ by rw [app_emp])
        generalize nm kind (n : Int) = R at hr
        generalize (⟨(pz n).toArray⟩ : ByteArray) = x at HP hpl hf
        go_enter Tryd.func10, Tryd.ntmps10
        go_wp2_with fail
        refine HP.out.mono ?_
        rintro e w1 ⟨rfl, b1⟩
        have b1h := hid b1
        clear HP b1
        go_wp2_with fail
        go_ret2
        exact ⟨by rw [hr.out, hf.out]; rfl, b1h.out⟩
      have hr : Hid (nm kind (n : Int) = (⟨#[]⟩, 60)) := nm_no kind n (by omega) (fun j hj e => by
        match j, hj, e with
        | 0, _, e => exact k1 e.symm
        | 1, _, e => exact k2 e.symm
        | 2, _, e => exact k3 e.symm
        | 3, _, e => exact k5 e.symm)
      generalize nm kind (n : Int) = R at hr
      clear HP hpl
      go_enter Tryd.func10, Tryd.ntmps10
      go_wp2_with fail
      go_ret2
      exact ⟨by rw [hr.out]; rfl, Below.refl _ _⟩
set_option maxRecDepth 1000000 in
theorem rcurrent_any (number : Int) (w : World) : Calls Tryd.prog 14 #[.int .i64 number] w fun e w' => e = .returned (.tuple #[.string (cu number).1, .int .i64 (cu number).2]) ∧ Below w.heap.size w w' := by
  have HN := hid (rname_any 3 number w)
  have hl := nm_len 3 number
  have hcu : Hid (cu number = if (nm 3 number).2 = 0 then ((nm 3 number).1 ++ ⟨#[10]⟩, 0) else (⟨#[]⟩, (nm 3 number).2)) := rfl
  generalize nm 3 number = R at HN hl hcu
  generalize cu number = C at hcu
  obtain ⟨r, re⟩ := R
  have hl : r.size ≤ 60 := hl
  have h1 : (⟨#[10]⟩ : ByteArray).size = 1 := rfl
  go_enter Tryd.func14, Tryd.ntmps14
  go_wp2_with fail
  refine HN.out.mono ?_
  rintro e w1 ⟨rfl, b1⟩
  have b1h := hid b1
  clear HN b1
  by_cases hre : re = 0
  · have hc : Hid (C = (r ++ ⟨#[10]⟩, 0)) := by
      show _ = _
      rw [hcu.out, if_pos hre]
    clear hcu
    go_wp2_with fail
    go_ret2
    exact ⟨by rw [hc.out]; rfl, b1h.out⟩
  · have hc : Hid (C = (⟨#[]⟩, re)) := by
      show _ = _
      rw [hcu.out, if_neg hre]
    clear hcu
    go_wp2_with fail
    go_ret2
    exact ⟨by rw [hc.out]; rfl, b1h.out⟩
end Go.Proofs.YtcjlgjlediihoaaDoor.Rw
