/- There and back, of the pure functions: what is encoded is decoded as it was; what is decoded is encoded so. -/
import Derived.Test.YtmceanfgcehfeabDe
namespace Go.Proofs.Ytmceanfgcehfeab.Pu
open Go.RowKit
open Go.Proofs.Ytmceanfgcehfeab.By
open Go.Proofs.Ytmceanfgcehfeab.Ob
open Go.Proofs.Ytmceanfgcehfeab.Hd
open Go.Proofs.Ytmceanfgcehfeab.Rp
open Go.Proofs.Ytmceanfgcehfeab.It
open Go.Proofs.Ytmceanfgcehfeab.De
open Go.Proofs.Ytmceanfgcehfeab.En
set_option linter.unusedVariables false

theorem str_data (zs : List Int) : (str zs).data.toList = zs.map (fun n => UInt8.ofNat n.toNat) := by
  have h : ∀ (zs : List Int) (r : ByteArray), (zs.foldl (fun r n => r.push (UInt8.ofNat n.toNat)) r).data.toList = r.data.toList ++ zs.map (fun n => UInt8.ofNat n.toNat) := by
    intro zs
    induction zs with
    | nil => intro r; simp
    | cons z r ih => intro b; simp only [List.foldl_cons, List.map_cons]; rw [ih]; simp [ByteArray.push]
  have := h zs ByteArray.empty
  simpa [str] using this
theorem tx_str (zs : List Int) (hb : ∀ y ∈ zs, 0 ≤ y ∧ y ≤ 255) : tx (str zs) = zs := by
  unfold tx
  rw [str_data, List.map_map]
  have : ∀ (l : List Int), (∀ y ∈ l, 0 ≤ y ∧ y ≤ 255) → l.map ((fun b : UInt8 => (b.toNat : Int)) ∘ fun n : Int => UInt8.ofNat n.toNat) = l := by
    intro l
    induction l with
    | nil => intro _; rfl
    | cons z r ih =>
      intro h
      have hz := h z (by simp)
      simp only [List.map_cons, Function.comp]
      rw [ih (fun y hy => h y (by simp [hy]))]
      congr 1
      simp [UInt8.toNat_ofNat']
      omega
  exact this zs hb
theorem byte_eq {a b : ByteArray} (h : a.data.toList = b.data.toList) : a = b := by
  cases a; cases b; simp at h; rw [ByteArray.mk.injEq]; exact Array.toList_inj.1 (by simpa using h)
theorem str_tx (s : ByteArray) : str (tx s) = s := by
  apply byte_eq
  rw [str_data]
  unfold tx
  rw [List.map_map]
  have : ∀ l : List UInt8, l.map ((fun n : Int => UInt8.ofNat n.toNat) ∘ fun b : UInt8 => (b.toNat : Int)) = l := by
    intro l
    induction l with
    | nil => rfl
    | cons z r ih => simp only [List.map_cons, ih, Function.comp]; simp
  exact this _
/-! ### Texts -/
theorem tread_back (ah rest : List Int) (s : ByteArray) (hs : s.size ≤ 1000000) : tread (ah ++ (tb s ++ rest)) ah.length = (tx s, ((ah.length + tsz s.size : Nat) : Int), 0) := by
  have hv := Vb.vread_back ah (tx s ++ rest) s.size (by omega)
  have e : ah ++ (tb s ++ rest) = ah ++ (Vb.vb s.size ++ (tx s ++ rest)) := by unfold tb; simp
  unfold tread
  rw [e, hv]
  have hl : (tx s).length = s.size := tx_len s
  rw [if_neg (by simp), if_neg (by simp [hl]; omega)]
  simp only [Int.toNat_natCast, Prod.mk.injEq, and_true]
  constructor
  · have e2 : ah ++ (Vb.vb s.size ++ (tx s ++ rest)) = (ah ++ Vb.vb s.size) ++ (tx s ++ rest) := by simp
    rw [e2, List.drop_left' (by simp), ← hl, List.take_left' rfl]
  · unfold tsz; omega
theorem tread_form (zs : List Int) (p : Nat) (hb : ∀ y ∈ zs, 0 ≤ y ∧ y ≤ 255) (h : (tread zs p).2.2 = 0) :
    ∃ q : Nat, (tread zs p).2.1 = (q : Int) ∧ p ≤ zs.length ∧ q ≤ zs.length ∧ p + tsz (str (tread zs p).1).size = q ∧ (zs.drop p).take (tsz (str (tread zs p).1).size) = tb (str (tread zs p).1) := by
  have hne : (Vb.vread zs p).2.2 = 0 := by
    unfold tread at h
    split at h
    · next h1 => exact absurd h h1
    · next h1 => exact Decidable.of_not_not h1
  obtain ⟨q, hq, _, hpq, hql, hx0, hx1⟩ := vread_ok zs p hb hne
  have hv : Vb.vread zs p = Vb.rd p 0 0 (zs.drop p) := by
    unfold Vb.vread
    rw [if_neg (by omega)]
    simp
  have hrd := hne
  rw [hv] at hrd
  obtain ⟨x, m, e1, x0, _, xlt, m1, ml, e2, e3⟩ := Vb.rd_form p (zs.drop p) 0 0 (by omega) (fun y hy => hb y (List.mem_of_mem_drop hy)) hrd
  rw [← hv] at e1 e2
  have hx : (Vb.vread zs p).1 = x := by rw [e1]; simp
  have hqm : q = p + m := by rw [hq] at e2; omega
  unfold tread at h ⊢
  rw [if_neg (by rw [hne]; simp)] at h ⊢
  split at h
  · simp at h
  · next h2 =>
    rw [if_neg h2]
    rw [hx, hq] at h2 ⊢
    rw [hx] at hx1
    obtain ⟨n, rfl⟩ : ∃ n : Nat, x = (n : Int) := ⟨x.toNat, by omega⟩
    simp only [Int.toNat_natCast]
    have hn : q + n ≤ zs.length := by omega
    have ht : ((zs.drop q).take n).length = n := by rw [List.length_take, List.length_drop]; omega
    have hsz : (str ((zs.drop q).take n)).size = n := by rw [str_size, ht]
    have hbt : ∀ y ∈ (zs.drop q).take n, 0 ≤ y ∧ y ≤ 255 := fun y hy => hb y (List.mem_of_mem_drop (List.mem_of_mem_take hy))
    have hvl : (Vb.vb n).length = m := by
      have := congrArg List.length e3
      rw [List.length_take] at this
      unfold Vb.vb
      rw [show 9 - 0 = 9 from rfl] at this
      omega
    refine ⟨q + n, by omega, by omega, hn, ?_, ?_⟩
    · rw [hsz]; unfold tsz; omega
    · rw [hsz]
      unfold tb tsz
      rw [hsz, tx_str _ hbt, hvl]
      rw [List.take_add, e3, List.drop_drop, hqm]
      rfl
theorem tread_bytes (zs : List Int) (p : Int) (hb : ∀ y ∈ zs, 0 ≤ y ∧ y ≤ 255) : ∀ y ∈ (tread zs p).1, 0 ≤ y ∧ y ≤ 255 := by
  unfold tread
  split
  · simp
  · split
    · simp
    · intro y hy; exact hb y (List.mem_of_mem_drop (List.mem_of_mem_take hy))
/-! ### Operations -/
theorem rop_back (ah rest : List Int) (x : O) (h : may x = true) : rop (ah ++ (ob x ++ rest)) ah.length = some (x, ah.length + osz x) := by
  obtain ⟨c, k, v⟩ := x
  have hs := may_sizes h
  simp only at hs
  have e0 : ah ++ (ob ⟨c, k, v⟩ ++ rest) = (ah ++ [c]) ++ (tb k ++ ((if c = 0 then [] else tb v) ++ rest)) := by unfold ob; simp
  have ek : tread (ah ++ (ob ⟨c, k, v⟩ ++ rest)) ((ah.length : Int) + 1) = (tx k, ((ah.length + 1 + tsz k.size : Nat) : Int), 0) := by
    rw [e0]
    have := tread_back (ah ++ [c]) ((if c = 0 then [] else tb v) ++ rest) k (by omega)
    simpa using this
  have ec : (ah ++ (ob ⟨c, k, v⟩ ++ rest)).getD ah.length 0 = c := by rw [e0]; simp [List.getD_eq_getElem?_getD]
  have el : ¬ (ah ++ (ob ⟨c, k, v⟩ ++ rest)).length ≤ ah.length := by rw [e0]; simp
  unfold rop
  rw [if_neg el, ek, if_neg (by simp), ec]
  by_cases c0 : c = 0
  · subst c0
    have hv : v = ⟨#[]⟩ := by
      unfold may at h
      simp at h
      exact h.2
    subst hv
    rw [if_pos rfl]
    simp only [str_tx]
    rw [if_pos h]
    unfold osz
    simp
    omega
  · rw [if_neg c0]
    have ev : tread (ah ++ (ob ⟨c, k, v⟩ ++ rest)) ((ah.length + 1 + tsz k.size : Nat) : Int) = (tx v, ((ah.length + 1 + tsz k.size + tsz v.size : Nat) : Int), 0) := by
      rw [e0, if_neg c0]
      have := tread_back ((ah ++ [c]) ++ tb k) rest v (by omega)
      have hl : ((ah ++ [c]) ++ tb k).length = ah.length + 1 + tsz k.size := by simp [tb_len]; omega
      rw [hl] at this
      rw [← this]
      simp
    simp only [ev]
    rw [if_neg (by simp)]
    simp only [str_tx]
    rw [if_pos h]
    unfold osz
    rw [if_neg c0]
    simp
    omega
theorem rop_form {zs : List Int} {p : Nat} {x : O} {nx : Nat} (hb : ∀ y ∈ zs, 0 ≤ y ∧ y ≤ 255) (h : rop zs p = some (x, nx)) :
    nx = p + osz x ∧ nx ≤ zs.length ∧ (zs.drop p).take (osz x) = ob x := by
  have hle := rop_le hb h
  unfold rop at h
  split at h
  · simp at h
  · next hp =>
    have hd : zs.drop p = zs.getD p 0 :: zs.drop (p + 1) := by
      rw [List.getD_eq_getElem?_getD, List.getElem?_eq_getElem (by omega)]
      exact List.drop_eq_getElem_cons (by omega)
    split at h
    · simp at h
    · next h1 =>
      have e1 : (tread zs ((p + 1 : Nat) : Int)).2.2 = 0 := by simpa using h1
      obtain ⟨q1, a1, a2, a3, a4, a5⟩ := tread_form zs (p + 1) hb e1
      simp only [Int.natCast_add, Int.cast_ofNat_Int] at a1 a4 a5 e1
      split at h
      · next hc =>
        split at h
        · next hm =>
          simp only [Option.some.injEq, Prod.mk.injEq] at h
          obtain ⟨rfl, rfl⟩ := h
          refine ⟨?_, hle, ?_⟩
          · rw [a1]; unfold osz; simp; omega
          · unfold osz ob
            simp only [if_true]
            rw [hd, hc, show 1 + tsz (str (tread zs ((p : Int) + 1)).1).size + 0 = tsz (str (tread zs ((p : Int) + 1)).1).size + 1 from by omega, List.take_succ_cons, a5]
            simp
        · simp at h
      · next hc =>
        split at h
        · simp at h
        · next h2 =>
          have e2 : (tread zs (q1 : Int)).2.2 = 0 := by rw [← a1]; exact Decidable.of_not_not h2
          obtain ⟨q2, b1, b2, b3, b4, b5⟩ := tread_form zs q1 hb e2
          split at h
          · next hm =>
            simp only [Option.some.injEq, Prod.mk.injEq] at h
            obtain ⟨rfl, rfl⟩ := h
            rw [a1]
            refine ⟨?_, by rw [a1] at hle; exact hle, ?_⟩
            · rw [b1]; unfold osz; rw [if_neg hc]; simp; omega
            · unfold osz ob
              rw [if_neg hc, if_neg hc]
              simp only
              rw [hd, show 1 + tsz (str (tread zs ((p : Int) + 1)).1).size + tsz (str (tread zs (q1 : Int)).1).size = (tsz (str (tread zs ((p : Int) + 1)).1).size + tsz (str (tread zs (q1 : Int)).1).size) + 1 from by omega, List.take_succ_cons, List.take_add, a5, List.drop_drop, a4, b5]
          · simp at h
theorem wlk_back : ∀ (xs : List O) (ah rest : List Int), (∀ x ∈ xs, may x = true) → wlk (ah ++ (obs xs ++ rest)) xs.length ah.length = (xs, ah.length + osum xs)
  | [], ah, rest, _ => by simp [wlk, osum]
  | x :: r, ah, rest, h => by
    have e : ah ++ (obs (x :: r) ++ rest) = ah ++ (ob x ++ (obs r ++ rest)) := by simp [obs]
    have h1 := rop_back ah (obs r ++ rest) x (h x (by simp))
    rw [← e] at h1
    rw [List.length_cons, wlk_some h1]
    have h2 := wlk_back r (ah ++ ob x) rest (fun y hy => h y (by simp [hy]))
    have e2 : (ah ++ ob x) ++ (obs r ++ rest) = ah ++ (obs (x :: r) ++ rest) := by simp [obs]
    rw [e2, List.length_append, ob_len] at h2
    rw [h2]
    simp [osum, Nat.add_assoc]
theorem wlk_form (zs : List Int) (hb : ∀ y ∈ zs, 0 ≤ y ∧ y ≤ 255) : ∀ (n p : Nat), p ≤ zs.length → (wlk zs n p).2 = p + osum (wlk zs n p).1 ∧ (wlk zs n p).2 ≤ zs.length ∧ (zs.drop p).take (osum (wlk zs n p).1) = obs (wlk zs n p).1
  | 0, p, hp => by simp [wlk, osum, obs]; exact hp
  | n + 1, p, hp => by
    cases hr : rop zs p with
    | none => rw [wlk_none hr]; simp [osum, obs]; exact hp
    | some y =>
      obtain ⟨x, nx⟩ := y
      obtain ⟨f1, f2, f3⟩ := rop_form hb hr
      obtain ⟨g1, g2, g3⟩ := wlk_form zs hb n nx f2
      rw [wlk_some hr]
      simp only [osum, obs]
      refine ⟨by omega, g2, ?_⟩
      rw [List.take_add, f3, List.drop_drop, ← f1, g3]
theorem le_lb (n : Nat) : ∀ (v : Int), 0 ≤ v → v < 256 ^ n → Fx.le (lb n v) = v := by
  induction n with
  | zero => intro v h0 h1; simp [lb, Fx.le] at *; omega
  | succ n ih =>
    intro v h0 h1
    have e : Fx.le (lb (n + 1) v) = v % 256 + 256 * Fx.le (lb n (v / 256)) := rfl
    rw [e, ih (v / 256) (by omega) (by rw [Int.pow_succ] at h1; omega)]
    omega
theorem lb_le : ∀ (ys : List Int), (∀ y ∈ ys, 0 ≤ y ∧ y ≤ 255) → lb ys.length (Fx.le ys) = ys
  | [], _ => rfl
  | y :: r, h => by
    have hy := h y (by simp)
    have e : Fx.le (y :: r) = y + 256 * Fx.le r := rfl
    rw [List.length_cons, lb, e]
    rw [show (y + 256 * Fx.le r) % 256 = y from by omega, show (y + 256 * Fx.le r) / 256 = Fx.le r from by omega, lb_le r (fun z hz => h z (by simp [hz]))]
theorem enc_head (s : Int) (xs : List O) (hs : 0 ≤ s ∧ s ≤ 18446744073709551615) (hn : xs.length ≤ 4096) : hseq (enc s xs) = s ∧ hcnt (enc s xs) = xs.length := by
  constructor
  · unfold hseq enc
    rw [List.take_left' (lb_len 8 s)]
    exact le_lb 8 s hs.1 (by rw [show (256 : Int) ^ 8 = 18446744073709551616 from by decide]; omega)
  · unfold hcnt enc
    rw [List.drop_left' (lb_len 8 s), List.take_left' (lb_len 4 _), le_lb 4 _ (by omega) (by rw [show (256 : Int) ^ 4 = 4294967296 from by decide]; omega)]
    simp
theorem dec_enc (s : Int) (xs : List O) (hs : 0 ≤ s ∧ s ≤ 18446744073709551615) (h : encE s xs = 0) : dec (enc s xs) = some (s, xs) := by
  obtain ⟨hc, hf⟩ := encE_ok h
  obtain ⟨p1, p2, p3, p4⟩ := chk_parts hc
  obtain ⟨e1, e2⟩ := enc_head s xs hs p1
  have hl := enc_len s xs
  have hw : wlk (enc s xs) xs.length 12 = (xs, 12 + osum xs) := by
    have := wlk_back xs (lb 8 s ++ lb 4 xs.length) [] (all_may xs p2)
    have e : (lb 8 s ++ lb 4 (xs.length : Int)) ++ (obs xs ++ []) = enc s xs := by unfold enc; simp
    have el : (lb 8 s ++ lb 4 (xs.length : Int)).length = 12 := by simp [lb_len]
    rw [e, el] at this
    exact this
  unfold dec
  rw [if_neg (by rw [hl]; unfold bsz; omega), e1, e2, if_neg (by rw [hl, hf]; simp; omega), hw]
  rw [if_pos ⟨rfl, hl.symm⟩]
theorem enc_dec (zs : List Int) (hb : ∀ y ∈ zs, 0 ≤ y ∧ y ≤ 255) (s : Int) (xs : List O) (h : dec zs = some (s, xs)) : encE s xs = 0 ∧ enc s xs = zs ∧ (0 ≤ s ∧ s ≤ 18446744073709551615) ∧ (∀ x ∈ xs, may x = true) ∧ xs.length ≤ 4096 := by
  unfold dec at h
  split at h
  · simp at h
  · next h1 =>
    split at h
    · simp at h
    · next h2 =>
      split at h
      · next h3 =>
        simp only [Option.some.injEq, Prod.mk.injEq] at h
        obtain ⟨rfl, rfl⟩ := h
        have hm := wlk_may zs (hcnt zs) 12
        obtain ⟨g1, g2, g3⟩ := wlk_form zs hb (hcnt zs) 12 (by omega)
        obtain ⟨h31, h32⟩ := h3
        have hl4 : hcnt zs ≤ 4096 := by omega
        have hf : fit (hseq zs) (hcnt zs) = true := by
          cases hf : fit (hseq zs) (hcnt zs) with
          | true => rfl
          | false => exact absurd (.inr (.inr hf)) h2
        generalize hX : (wlk zs (hcnt zs) 12).1 = X at *
        refine ⟨?_, ?_, seq_bd zs hb, hm, by omega⟩
        · unfold encE
          rw [chk_ok (by omega) (bad_of_all X hm) (by omega)]
          rw [if_pos rfl, h31, if_pos hf]
        · unfold enc
          have d12 : (zs.drop 12).take (osum X) = zs.drop 12 := by
            apply List.take_of_length_le
            rw [List.length_drop]
            unfold bsz at h32
            omega
          rw [← g3, d12, h31]
          have e8 : lb 8 (hseq zs) = zs.take 8 := by
            have := lb_le (zs.take 8) (fun y hy => hb y (List.mem_of_mem_take hy))
            rw [show (zs.take 8).length = 8 from by rw [List.length_take]; omega] at this
            exact this
          have e4 : lb 4 (hcnt zs : Int) = (zs.drop 8).take 4 := by
            have := lb_le ((zs.drop 8).take 4) (fun y hy => hb y (List.mem_of_mem_drop (List.mem_of_mem_take hy)))
            rw [show ((zs.drop 8).take 4).length = 4 from by rw [List.length_take, List.length_drop]; omega] at this
            have hc := cnt_bd zs hb
            unfold hcnt
            rw [Int.toNat_of_nonneg hc.1]
            exact this
          rw [e8, e4]
          have : zs.drop 12 = (zs.drop 8).drop 4 := by rw [List.drop_drop]
          rw [this, List.take_append_drop, List.take_append_drop]
      · simp at h
end Go.Proofs.Ytmceanfgcehfeab.Pu
