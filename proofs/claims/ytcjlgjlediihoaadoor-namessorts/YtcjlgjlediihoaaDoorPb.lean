/- What is named is read again: in plain lists. -/
import Derived.Test.YtcjlgjlediihoaaDoorPz
namespace Go.Proofs.YtcjlgjlediihoaaDoor.Rw
open Go.ChangeShapes Go.WideShapes Go.ChangeAt Go.RowKit
open Go.Proofs.YtcjlgjlediihoaaDoor.Ut
open Go.Proofs.YtcjlgjlediihoaaDoor.By
set_option linter.unusedVariables false
set_option linter.unusedSimpArgs false

theorem of_dig (d : Nat) (h : d < 10) : (UInt8.ofNat (48 + d)).toNat = 48 + d := by
  rw [UInt8.toNat_ofNat']
  omega
theorem vf_dig (d : Nat) (h : d < 10) (t : List UInt8) (n : Nat) (hn : n * 10 + d ≤ 2147483647) : vf (UInt8.ofNat (48 + d) :: t) n = vf t (n * 10 + d) := by
  have e := of_dig d h
  rw [vf, e, if_neg (by omega), if_neg (by omega)]
  congr 1
  omega
theorem vf_dec : ∀ (f u : Nat) (t : List UInt8), u ≤ f → u ≤ 2147483647 → vf (Lib.decDigits u ++ t) 0 = vf t u := by
  intro f
  induction f with
  | zero =>
    intro u t hu _
    have : u = 0 := by omega
    subst this
    rw [Lib.decDigits_one (by omega)]
    have h := vf_dig 0 (by omega) t 0 (by omega)
    exact h
  | succ f ih =>
    intro u t hu hm
    by_cases h : u < 10
    · rw [Lib.decDigits_one h]
      have h' := vf_dig u h t 0 (by omega)
      rw [Nat.zero_mul, Nat.zero_add] at h'
      exact h'
    · rw [Lib.decDigits, dif_neg h, List.append_assoc, ih (u / 10) _ (by omega) (by omega)]
      have h' := vf_dig (u % 10) (by omega) t (u / 10) (by omega)
      rw [List.singleton_append, h']
      congr 1
      omega
theorem vf_zeros (t : List UInt8) : ∀ c, vf (Lib.repeatL [48] c ++ t) 0 = vf t 0 := by
  intro c
  induction c with
  | zero => rfl
  | succ c ih =>
    have e : Lib.repeatL [48] (c + 1) = 48 :: Lib.repeatL [48] c := by
      rw [Nat.add_comm, Lib.repeatL_add, Lib.repeatL_one]
      rfl
    rw [e, List.cons_append]
    have h := vf_dig 0 (by omega) (Lib.repeatL [48] c ++ t) 0 (by omega)
    exact h.trans ih
theorem vf_pz (n : Nat) (h : n ≤ 2147483647) : vf (pz n) 0 = n := by
  rw [pz, vf_zeros]
  have := vf_dec n n [] (by omega) h
  rw [List.append_nil] at this
  rw [this, vf]
theorem fmo_list (k n : Nat) : (fmo k n).data.toList = (fa k).data.toList ++ (pz n ++ (fo k).data.toList) := by
  unfold fmo
  rw [ByteArray.data_append, ByteArray.data_append, Array.toList_append, Array.toList_append, List.append_assoc]
theorem trimp_app (a b : List UInt8) : Lib.trimPrefix (a ++ b) a = b := by
  have h : Lib.hasPrefix (a ++ b) a = true := List.isPrefixOf_iff_prefix.2 (List.prefix_append a b)
  rw [Lib.trimPrefix, if_pos h, List.drop_left]
theorem hass_app (a b : List UInt8) : Lib.hasSuffix (a ++ b) b = true := List.isSuffixOf_iff_suffix.2 (List.suffix_append a b)
theorem trims_app (a b : List UInt8) : Lib.trimSuffix (a ++ b) b = a := by
  rw [Lib.trimSuffix, if_pos (hass_app a b), List.length_append, Nat.add_sub_cancel, List.take_left]
theorem vk_fmo (k n : Nat) (h : n ≤ 2147483647) : vk k (fmo k n) = n := by
  unfold vk ck pk
  show vf (Lib.trimSuffix (Lib.trimPrefix (fmo k n).data.toList (fa k).data.toList) (fo k).data.toList) 0 = n
  rw [fmo_list, trimp_app, trims_app, vf_pz n h]
def cl (c : UInt8) : Nat := if c = 103 then 0 else if c = 98 then 1 else if c = 112 then 3 else if c = 84 then 4 else 2
def cls (s : ByteArray) : Nat := match s.data.toList.getLast? with
  | some c => cl c
  | none => 5
theorem cl_dig : ∀ d, d < 10 → cl (UInt8.ofNat (48 + d)) = 2 := by decide
theorem dec_last (n : Nat) : ∃ d, d < 10 ∧ (Lib.decDigits n).getLast? = some (UInt8.ofNat (48 + d)) := by
  by_cases h : n < 10
  · rw [Lib.decDigits_one h]
    exact ⟨n, h, rfl⟩
  · rw [Lib.decDigits, dif_neg h]
    exact ⟨n % 10, by omega, List.getLast?_concat⟩
theorem cls_fmo (k n : Nat) (hk : k < 4) : cls (fmo k n) = k := by
  unfold cls
  rw [fmo_list, ← List.append_assoc, List.getLast?_append]
  match k, hk with
  | 0, _ => rfl
  | 1, _ => rfl
  | 3, _ => rfl
  | 2, _ =>
    have e : (fo 2).data.toList.getLast? = none := rfl
    obtain ⟨d, hd, hl⟩ := dec_last n
    rw [e, Option.none_or, List.getLast?_append, pz, List.getLast?_append, hl]
    exact cl_dig d hd
theorem cls_cur : cls cur = 4 := by decide
theorem hit_is (j : Nat) (hj : j < 4) (s : ByteArray) (h : hit j s) : ∃ m, s = fmo j m := by
  unfold hit at h
  by_cases hm : 1 ≤ vk j s ∧ vk j s ≤ 2147483647
  · rw [nm_at j hj _ hm.1 hm.2] at h
    exact ⟨_, (congrArg Prod.fst h).symm⟩
  · have hn4 := fk_ne4 j
    unfold nm at h
    rw [if_neg (fun h => hn4 h.1), if_pos (by omega)] at h
    exact absurd (show (60 : Int) = 0 from congrArg Prod.snd h) (by decide)
theorem pz_back (k n : Nat) (hk : k < 4) (h1 : 1 ≤ n) (h2 : n ≤ 2147483647) (kk nn ee : Int) (h : Pz (fmo k n) kk nn ee) : kk = fk k ∧ nn = n ∧ ee = 0 := by
  have hc : fmo k n ≠ cur := fun e => by
    have := cls_fmo k n hk
    rw [e, cls_cur] at this
    omega
  have hh : hit k (fmo k n) := by
    unfold hit
    rw [vk_fmo k n h2, nm_at k hk n h1 h2]
  have hj : ∀ j, j < 4 → hit j (fmo k n) → j = k := fun j hj h => by
    obtain ⟨m, e⟩ := hit_is j hj _ h
    have := cls_fmo k n hk
    rw [e, cls_fmo j m hj] at this
    exact this
  rcases h with ⟨e, _⟩ | ⟨_, ⟨j, hj4, hit', _, rfl, rfl, rfl⟩ | ⟨hno, _⟩⟩
  · exact absurd e hc
  · have := hj j hj4 hit'
    subst this
    exact ⟨rfl, by rw [vk_fmo j n h2], rfl⟩
  · exact absurd hh (hno k hk)
theorem pz_nm (s : ByteArray) (kk nn : Int) (h : Pz s kk nn 0) : nm kk nn = (s, 0) := by
  rcases h with ⟨rfl, rfl, rfl, _⟩ | ⟨_, ⟨j, hj4, hit', _, rfl, rfl, _⟩ | ⟨hno, _, _, e⟩⟩
  · rfl
  · exact hit'
  · exact absurd e (by decide)
theorem nm_is (kind number : Int) (h : (nm kind number).2 = 0) : (kind = 4 ∧ number = 0 ∧ nm kind number = (cur, 0)) ∨ ∃ k n : Nat, k < 4 ∧ 1 ≤ n ∧ n ≤ 2147483647 ∧ kind = fk k ∧ number = (n : Int) ∧ nm kind number = (fmo k n, 0) := by
  by_cases h4 : kind = 4 ∧ number = 0
  · obtain ⟨rfl, rfl⟩ := h4
    exact .inl ⟨rfl, rfl, rfl⟩
  · by_cases hn : number < 1 ∨ 2147483647 < number
    · unfold nm at h
      rw [if_neg h4, if_pos hn] at h
      exact absurd h (by decide)
    · obtain ⟨n, rfl⟩ : ∃ n : Nat, number = n := ⟨number.toNat, by omega⟩
      by_cases hk : ∃ k, k < 4 ∧ fk k = kind
      · obtain ⟨k, hk, rfl⟩ := hk
        exact .inr ⟨k, n, hk, by omega, by omega, rfl, rfl, nm_at k hk n (by omega) (by omega)⟩
      · rw [nm_no kind n (by omega) (fun j hj e => hk ⟨j, hj, e⟩)] at h
        exact absurd h (by decide)
theorem pz_cur (kk nn ee : Int) (h : Pz cur kk nn ee) : kk = 4 ∧ nn = 0 ∧ ee = 0 := by
  rcases h with ⟨_, h⟩ | ⟨h, _⟩
  · exact h
  · exact absurd rfl h
/-- What is named is read as it was. -/
theorem back (kind number : Int) (h : (nm kind number).2 = 0) (kk nn ee : Int) (hp : Pz (nm kind number).1 kk nn ee) : kk = kind ∧ nn = number ∧ ee = 0 := by
  rcases nm_is kind number h with ⟨rfl, rfl, e⟩ | ⟨k, n, hk, h1, h2, rfl, rfl, e⟩
  · rw [e] at hp
    exact pz_cur _ _ _ hp
  · rw [e] at hp
    exact pz_back k n hk h1 h2 _ _ _ hp
end Go.Proofs.YtcjlgjlediihoaaDoor.Rw
