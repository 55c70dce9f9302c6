/- What is quoted is read as it was. -/
import Derived.Test.YtcjlgjlediihoabDoorWp
namespace Go.Proofs.YtcjlgjlediihoabDoor.Rw
open Go.ChangeShapes Go.WideShapes Go.ChangeAt Go.RowKit
open Go.Proofs.YtcjlgjlediihoabDoor.Ut
open Go.Proofs.YtcjlgjlediihoabDoor.By
set_option linter.unusedVariables false
set_option linter.unusedSimpArgs false

theorem str_tx (s : ByteArray) : str (tx s) = s := by
  have h : ∀ (l : List UInt8) (r : ByteArray), (l.map fun b => (b.toNat : Int)).foldl (fun r n => r.push (UInt8.ofNat n.toNat)) r = ⟨r.data ++ l.toArray⟩ := by
    intro l
    induction l with
    | nil => intro r; cases r; simp
    | cons b l ih =>
      intro r
      rw [List.map_cons, List.foldl_cons, ih]
      simp [ByteArray.push]
  unfold str tx
  rw [h]
  cases s
  simp [ByteArray.empty, ByteArray.emptyWithCapacity]
  try rfl
theorem tx_str (l : List Int) (h : ∀ y ∈ l, 0 ≤ y ∧ y ≤ 255) : tx (str l) = l := by
  have e : (str l).data.toList = l.map (fun n => UInt8.ofNat n.toNat) := by
    have h : ∀ (zs : List Int) (r : ByteArray), (zs.foldl (fun r n => r.push (UInt8.ofNat n.toNat)) r).data.toList = r.data.toList ++ zs.map (fun n => UInt8.ofNat n.toNat) := by
      intro zs
      induction zs with
      | nil => intro r; simp
      | cons z t ih => intro r; rw [List.foldl_cons, ih]; simp [ByteArray.push]
    have := h l ByteArray.empty
    simpa [str] using this
  unfold tx
  rw [e, List.map_map]
  conv => rhs; rw [← List.map_id l]
  refine List.map_congr_left fun y hy => ?_
  have := h y hy
  simp only [Function.comp, id]
  show ((UInt8.ofNat y.toNat).toNat : Int) = y
  rw [UInt8.toNat_ofNat']
  omega

/-- What stands from a place on. -/
def Suf (S : ByteArray) (P : Nat) (L : List Int) : Prop := P ≤ S.size ∧ (tx S).drop P = L
theorem Suf.bt {S : ByteArray} {P : Nat} {L : List Int} (h : Suf S P L) (j : Nat) : Ut.bt S (P + j) = (L.getD j 0).toNat := by
  have h1 := tx_get S (P + j)
  rw [← h.2, List.getD_eq_getElem?_getD, List.getElem?_drop, ← List.getD_eq_getElem?_getD, h1, Int.toNat_natCast]
theorem Suf.bt0 {S : ByteArray} {P : Nat} {L : List Int} (h : Suf S P L) : Ut.bt S P = (L.getD 0 0).toNat := by
  have := h.bt 0
  rw [Nat.add_zero] at this
  exact this
theorem Suf.size {S : ByteArray} {P : Nat} {L : List Int} (h : Suf S P L) : S.size = P + L.length := by
  have := congrArg List.length h.2
  rw [List.length_drop, tx_len] at this
  have := h.1
  omega
theorem Suf.next {S : ByteArray} {P : Nat} {L R : List Int} (h : Suf S P (L ++ R)) : Suf S (P + L.length) R := by
  have hs := h.size
  rw [List.length_append] at hs
  refine ⟨by omega, ?_⟩
  rw [← List.drop_drop, h.2, List.drop_left]
theorem Suf.take {S : ByteArray} {P : Nat} {L R : List Int} (h : Suf S P (L ++ R)) : tx (S.extract P (P + L.length)) = L := by
  rw [tx_ext, h.2, Nat.add_sub_cancel_left, List.take_left]
theorem hv_hd (n : Nat) (h : n < 16) : hv (hd n).toNat = n := by
  have : ∀ n, n < 16 → hv (hd n).toNat = n := by decide +kernel
  exact this n h
theorem rd_hx {S : ByteArray} {P b : Nat} {R : List Int} (hb : b < 256) (h : Suf S P (hx b ++ R)) : rd S P = ([(b : Int)], 4) := by
  have hs := h.size
  rw [List.length_append] at hs
  have hl : (hx b).length = 4 := rfl
  have b0 : bt S P = 92 := h.bt0
  have b1 : bt S (P + 1) = 120 := h.bt 1
  have b2 : bt S (P + 2) = (hd (b / 16)).toNat := h.bt 2
  have b3 : bt S (P + 3) = (hd (b % 16)).toNat := h.bt 3
  unfold rd
  rw [if_pos b0]
  unfold esc
  rw [if_pos (by omega), if_neg (by omega), if_neg (by omega), if_neg (by omega), if_neg (by omega), if_neg (by omega), b2, b3, hv_hd _ (by omega), hv_hd _ (by omega)]
  rw [if_pos ⟨b1, by omega, by omega, by omega⟩]
  congr 2
  omega
theorem rd_let {S : ByteArray} {P : Nat} {R : List Int} (m c : Nat) (hmc : (m = 10 ∧ c = 110) ∨ (m = 9 ∧ c = 116) ∨ (m = 32 ∧ c = 115) ∨ (m = 34 ∧ c = 34) ∨ (m = 92 ∧ c = 92)) (h : Suf S P ([92, (c : Int)] ++ R)) : rd S P = ([(m : Int)], 2) := by
  have hs := h.size
  rw [List.length_append] at hs
  have hl : ([92, (c : Int)] : List Int).length = 2 := rfl
  have b0 : bt S P = 92 := h.bt0
  have b1 : bt S (P + 1) = c := by have := h.bt 1; simpa using this
  unfold rd
  rw [if_pos b0]
  unfold esc
  rw [if_pos (by omega), b1]
  rcases hmc with ⟨rfl, rfl⟩ | ⟨rfl, rfl⟩ | ⟨rfl, rfl⟩ | ⟨rfl, rfl⟩ | ⟨rfl, rfl⟩ <;> rfl
/-- A rune hangs on its own bytes alone. -/
theorem decN_same (N M b0 b1 b2 b3 c1 c2 c3 : Nat) (hD : Lib.decodeN N b0 b1 b2 b3 ≠ (65533, 1)) (hM : (Lib.decodeN N b0 b1 b2 b3).2 ≤ M) (e1 : 1 < (Lib.decodeN N b0 b1 b2 b3).2 → c1 = b1) (e2 : 2 < (Lib.decodeN N b0 b1 b2 b3).2 → c2 = b2) (e3 : 3 < (Lib.decodeN N b0 b1 b2 b3).2 → c3 = b3) :
    Lib.decodeN M b0 c1 c2 c3 = Lib.decodeN N b0 b1 b2 b3 := by
  have key : ∀ D : Nat × Nat, D = Lib.decodeN N b0 b1 b2 b3 → Lib.decodeN M b0 c1 c2 c3 = D := by
    intro D hDD
    rw [← hDD] at hD hM e1 e2 e3
    unfold Lib.decodeN at hDD ⊢
    by_cases k1 : b0 < 128
    · rw [if_pos k1] at hDD ⊢
      exact hDD.symm
    · rw [if_neg k1] at hDD ⊢
      by_cases k2 : b0 / 32 = 6 ∧ (1 < N ∧ b1 / 64 = 2)
      · rw [if_pos k2] at hDD
        by_cases k2'' : b0 % 32 * 64 + b1 % 64 ≥ 128
        · rw [if_pos k2''] at hDD
          rw [hDD] at hM e1
          have hM : 2 ≤ M := hM
          rw [e1 (by show 1 < 2; omega), if_pos ⟨k2.1, by omega, k2.2.2⟩, if_pos k2'', hDD]
        · rw [if_neg k2''] at hDD
          exact absurd hDD hD
      · rw [if_neg k2] at hDD
        by_cases k3 : b0 / 16 = 14 ∧ (1 < N ∧ b1 / 64 = 2) ∧ (2 < N ∧ b2 / 64 = 2)
        · rw [if_pos k3] at hDD
          by_cases k3'' : b0 % 16 * 4096 + b1 % 64 * 64 + b2 % 64 ≥ 2048 ∧ (b0 % 16 * 4096 + b1 % 64 * 64 + b2 % 64 < 55296 ∨ (57344 ≤ b0 % 16 * 4096 + b1 % 64 * 64 + b2 % 64 ∧ b0 % 16 * 4096 + b1 % 64 * 64 + b2 % 64 ≤ 1114111))
          · rw [if_pos k3''] at hDD
            rw [hDD] at hM e1 e2
            have hM : 3 ≤ M := hM
            rw [e1 (by show 1 < 3; omega), e2 (by show 2 < 3; omega), if_neg (fun x => by omega), if_pos ⟨k3.1, ⟨by omega, k3.2.1.2⟩, ⟨by omega, k3.2.2.2⟩⟩, if_pos k3'', hDD]
          · rw [if_neg k3''] at hDD
            exact absurd hDD hD
        · rw [if_neg k3] at hDD
          by_cases k4 : b0 / 8 = 30 ∧ (1 < N ∧ b1 / 64 = 2) ∧ (2 < N ∧ b2 / 64 = 2) ∧ (3 < N ∧ b3 / 64 = 2)
          · rw [if_pos k4] at hDD
            by_cases k4'' : b0 % 8 * 262144 + b1 % 64 * 4096 + b2 % 64 * 64 + b3 % 64 ≥ 65536 ∧ (b0 % 8 * 262144 + b1 % 64 * 4096 + b2 % 64 * 64 + b3 % 64 < 55296 ∨ (57344 ≤ b0 % 8 * 262144 + b1 % 64 * 4096 + b2 % 64 * 64 + b3 % 64 ∧ b0 % 8 * 262144 + b1 % 64 * 4096 + b2 % 64 * 64 + b3 % 64 ≤ 1114111))
            · rw [if_pos k4''] at hDD
              rw [hDD] at hM e1 e2 e3
              have hM : 4 ≤ M := hM
              rw [e1 (by show 1 < 4; omega), e2 (by show 2 < 4; omega), e3 (by show 3 < 4; omega), if_neg (fun x => by omega), if_neg (fun x => by omega), if_pos ⟨k4.1, ⟨by omega, k4.2.1.2⟩, ⟨by omega, k4.2.2.1.2⟩, ⟨by omega, k4.2.2.2.2⟩⟩, if_pos k4'', hDD]
            · rw [if_neg k4''] at hDD
              exact absurd hDD hD
          · rw [if_neg k4] at hDD
            exact absurd hDD hD
  exact key _ rfl
theorem plain_ne (r : Nat) (h : plain r = true) : r ≠ 10 ∧ r ≠ 9 ∧ r ≠ 32 ∧ r ≠ 34 ∧ r ≠ 92 := by
  refine ⟨?_, ?_, ?_, ?_, ?_⟩ <;> (rintro rfl; revert h; decide)
theorem rd_plain {S a : ByteArray} {P p : Nat} {R : List Int} (hp : p < a.size) (hst : Utf8.decode a p ≠ (65533, 1)) (hpl : plain (Utf8.decode a p).1 = true) (h : Suf S P (tx (a.extract p (p + (Utf8.decode a p).2)) ++ R)) :
    rd S P = (tx (a.extract p (p + (Utf8.decode a p).2)), (Utf8.decode a p).2) ∧ bt S P ≠ 34 := by
  have hw := dec_wd a p hp
  have hs := h.size
  have hlen : (tx (a.extract p (p + (Utf8.decode a p).2))).length = (Utf8.decode a p).2 := by rw [tx_len, ext_size a _ _ hw.2.1]; omega
  rw [List.length_append, hlen] at hs
  have hb : ∀ k, k < (Utf8.decode a p).2 → bt S (P + k) = bt a (p + k) := fun k hk => by
    rw [h.bt k, List.getD_eq_getElem?_getD, List.getElem?_append_left (by omega), ← List.getD_eq_getElem?_getD, tx_get, Int.toNat_natCast, ext_bt a p _ k hw.2.1 (by omega)]
  have h0 : bt S P = bt a p := by have := hb 0 (by omega); rw [Nat.add_zero, Nat.add_zero] at this; exact this
  have hD : Utf8.decode S P = Utf8.decode a p := by
    have e := dec_at a p
    rw [dec_at S P, h0, e]
    rw [e] at hst hb hs
    exact decN_same _ _ _ _ _ _ _ _ _ hst (by omega) (fun x => hb 1 x) (fun x => hb 2 x) (fun x => hb 3 x)
  have hne := plain_ne _ hpl
  have h92 : bt a p ≠ 92 := fun e => by
    rw [dec_small a p (by omega)] at hne
    exact hne.2.2.2.2 e
  have h34 : bt a p ≠ 34 := fun e => by
    rw [dec_small a p (by omega)] at hne
    exact hne.2.2.2.1 e
  refine ⟨?_, by rw [h0]; exact h34⟩
  unfold rd
  rw [if_neg (by rw [h0]; exact h92), hD, if_neg (fun x => by rcases x with x | x; exact hst x; rw [hpl] at x; simp at x)]
  have := h.take
  rw [hlen] at this
  rw [this]
/-- One step of reading. -/
theorem un_go (S : ByteArray) (f P : Nat) (acc l : List Int) (n : Nat) (hn : n ≠ 0) (hP : P < S.size) (hf : S.size ≤ P + f) (h34 : bt S P ≠ 34) (h : rd S P = (l, n)) : ∃ f', S.size ≤ P + n + f' ∧ un S f P acc = un S f' (P + n) (acc ++ l) := by
  refine ⟨f - 1, by omega, ?_⟩
  rw [un_step S f P acc hP hf h34 (by rw [h]; exact hn), h]
theorem un_hxs (S : ByteArray) : ∀ (l : List Int) (f P : Nat) (acc R : List Int), (∀ y ∈ l, 0 ≤ y ∧ y ≤ 255) → S.size ≤ P + f → Suf S P (hxs l ++ R) → ∃ f', S.size ≤ P + (hxs l).length + f' ∧ un S f P acc = un S f' (P + (hxs l).length) (acc ++ l)
  | [], f, P, acc, R, _, hf, _ => ⟨f, by simpa [hxs] using hf, by simp [hxs]⟩
  | y :: r, f, P, acc, R, hy, hf, h => by
    have hy0 := hy y (by simp)
    have h' : Suf S P (hx y.toNat ++ (hxs r ++ R)) := by simpa [hxs] using h
    have hs := h'.size
    rw [List.length_append] at hs
    have h4 : (hx y.toNat).length = 4 := rfl
    obtain ⟨f1, g1, e1⟩ := un_go S f P acc [((y.toNat : Nat) : Int)] 4 (by omega) (by omega) hf (by rw [h'.bt0]; show (92 : Nat) ≠ 34; omega) (rd_hx (by omega) h')
    obtain ⟨f2, g2, e2⟩ := un_hxs S r f1 (P + 4) (acc ++ [y]) R (fun z hz => hy z (by simp [hz])) g1 h'.next
    have hlen : (hxs (y :: r)).length = 4 + (hxs r).length := by simp [hxs, h4]
    refine ⟨f2, by omega, ?_⟩
    rw [e1, show ((y.toNat : Nat) : Int) = y from by omega, e2, hlen, Nat.add_assoc]
    simp
theorem un_piece (S a : ByteArray) (p f P : Nat) (acc R : List Int) (hp : p < a.size) (hf : S.size ≤ P + f) (h : Suf S P (pc a p ++ R)) :
    ∃ f', S.size ≤ P + (pc a p).length + f' ∧ un S f P acc = un S f' (P + (pc a p).length) (acc ++ tx (a.extract p (p + (Utf8.decode a p).2))) := by
  have hw := dec_wd a p hp
  have one : ∀ c : Nat, c < 128 → (Utf8.decode a p).1 = c → tx (a.extract p (p + (Utf8.decode a p).2)) = [(c : Int)] := fun c hc he => by
    have hd := dec_lt a p hp (by omega)
    have hbc : bt a p = c := by rw [hd.2] at he; exact he
    rw [hd.2]
    show tx (a.extract p (p + 1)) = _
    have hl : (tx (a.extract p (p + 1))).length = 1 := by rw [tx_len, ext_size a p (p + 1) (by omega)]; omega
    have hg := tx_get (a.extract p (p + 1)) 0
    rw [ext_bt a p (p + 1) 0 (by omega) (by omega)] at hg
    have hbb : bt a (p + 0) = c := hbc
    rw [hbb] at hg
    match hq : tx (a.extract p (p + 1)), hl, hg with
    | [x], _, hg => simp at hg; rw [hg]
  have letter : ∀ m c : Nat, ((m = 10 ∧ c = 110) ∨ (m = 9 ∧ c = 116) ∨ (m = 32 ∧ c = 115) ∨ (m = 34 ∧ c = 34) ∨ (m = 92 ∧ c = 92)) → (Utf8.decode a p).1 = m → pc a p = [92, (c : Int)] →
      ∃ f', S.size ≤ P + (pc a p).length + f' ∧ un S f P acc = un S f' (P + (pc a p).length) (acc ++ tx (a.extract p (p + (Utf8.decode a p).2))) := by
    intro m c hmc hm hpc
    rw [hpc] at h
    have hs := h.size
    rw [List.length_append] at hs
    have hl : ([92, (c : Int)] : List Int).length = 2 := rfl
    rw [one m (by omega) hm, hpc]
    exact un_go S f P acc [(m : Int)] 2 (by omega) (by omega) hf (by rw [h.bt0]; show (92 : Nat) ≠ 34; omega) (rd_let m c hmc h)
  by_cases hst : Utf8.decode a p = (65533, 1)
  · have hpc : pc a p = hx (bt a p) := by unfold pc; rw [if_pos hst]
    have hbl := bt_lt a p
    have ht : tx (a.extract p (p + (Utf8.decode a p).2)) = [((bt a p : Nat) : Int)] := by
      rw [hst]
      show tx (a.extract p (p + 1)) = _
      have hl : (tx (a.extract p (p + 1))).length = 1 := by rw [tx_len, ext_size a p (p + 1) (by omega)]; omega
      have hg := tx_get (a.extract p (p + 1)) 0
      rw [ext_bt a p (p + 1) 0 (by omega) (by omega)] at hg
      have hg : (tx (a.extract p (p + 1))).getD 0 0 = ((bt a p : Nat) : Int) := hg
      match hq : tx (a.extract p (p + 1)), hl, hg with
      | [x], _, hg => simp at hg; rw [hg]
    rw [ht, hpc]
    rw [hpc] at h
    have hs := h.size
    rw [List.length_append] at hs
    have hl : (hx (bt a p)).length = 4 := rfl
    exact un_go S f P acc _ 4 (by omega) (by omega) hf (by rw [h.bt0]; show (92 : Nat) ≠ 34; omega) (rd_hx hbl h)
  · have hP : pc a p = if (Utf8.decode a p).1 = 10 then [92, 110] else if (Utf8.decode a p).1 = 9 then [92, 116] else if (Utf8.decode a p).1 = 32 then [92, 115] else if (Utf8.decode a p).1 = 34 then [92, 34] else if (Utf8.decode a p).1 = 92 then [92, 92]
        else if plain (Utf8.decode a p).1 = true then tx (a.extract p (p + (Utf8.decode a p).2)) else hxs (tx (a.extract p (p + (Utf8.decode a p).2))) := by
      unfold pc
      rw [if_neg hst]
    by_cases a1 : (Utf8.decode a p).1 = 10
    · exact letter 10 110 (by omega) a1 (by rw [hP, if_pos a1]; rfl)
    · by_cases a2 : (Utf8.decode a p).1 = 9
      · exact letter 9 116 (by omega) a2 (by rw [hP, if_neg a1, if_pos a2]; rfl)
      · by_cases a3 : (Utf8.decode a p).1 = 32
        · exact letter 32 115 (by omega) a3 (by rw [hP, if_neg a1, if_neg a2, if_pos a3]; rfl)
        · by_cases a4 : (Utf8.decode a p).1 = 34
          · exact letter 34 34 (by omega) a4 (by rw [hP, if_neg a1, if_neg a2, if_neg a3, if_pos a4]; rfl)
          · by_cases a5 : (Utf8.decode a p).1 = 92
            · exact letter 92 92 (by omega) a5 (by rw [hP, if_neg a1, if_neg a2, if_neg a3, if_neg a4, if_pos a5]; rfl)
            · rw [if_neg a1, if_neg a2, if_neg a3, if_neg a4, if_neg a5] at hP
              by_cases a6 : plain (Utf8.decode a p).1 = true
              · rw [if_pos a6] at hP
                rw [hP] at h ⊢
                have hs := h.size
                rw [List.length_append] at hs
                have hlen : (tx (a.extract p (p + (Utf8.decode a p).2))).length = (Utf8.decode a p).2 := by rw [tx_len, ext_size a _ _ hw.2.1]; omega
                obtain ⟨r1, r2⟩ := rd_plain hp hst a6 h
                rw [hlen]
                exact un_go S f P acc _ _ (by omega) (by omega) hf r2 r1
              · rw [if_neg a6] at hP
                rw [hP] at h ⊢
                exact un_hxs S _ f P acc R (tx_bytes _) hf h
theorem un_all (S a : ByteArray) : ∀ k p f F P acc, a.size - p = k → p ≤ a.size → a.size ≤ p + f → S.size ≤ P + F → Suf S P (qf a f p ++ [34]) → un S F P acc = (true, S.size, acc ++ (tx a).drop p) := by
  intro k
  induction k using Nat.strongRecOn with
  | ind k ih =>
  intro p f F P acc hk hp hf hF h
  by_cases hlt : p < a.size
  · have hw := dec_wd a p hlt
    rw [qf_step a f p hlt hf, List.append_assoc] at h
    obtain ⟨f', g, e⟩ := un_piece S a p F P acc _ hlt hF h
    rw [e, ih (a.size - (p + (Utf8.decode a p).2)) (by omega) (p + (Utf8.decode a p).2) (f - 1) f' _ _ rfl hw.2.1 (by omega) g h.next]
    rw [List.append_assoc]
    congr 3
    rw [tx_ext, Nat.add_sub_cancel_left, ← List.drop_drop, List.take_append_drop]
  · rw [qf_end a f p hlt, List.nil_append] at h
    have hs := h.size
    have hl : ([34] : List Int).length = 1 := rfl
    have h34 : bt S P = 34 := h.bt0
    rw [un_quote S F P acc (by omega) hF h34, decide_eq_true (by omega)]
    rw [List.drop_of_length_le (by rw [tx_len]; omega), List.append_nil]
    congr 2
    omega
theorem qf_bytes (a : ByteArray) : ∀ f p, ∀ y ∈ qf a f p, 0 ≤ y ∧ y ≤ 255 := by
  intro f
  induction f with
  | zero => intro p y hy; simp [qf] at hy
  | succ f ih =>
    intro p y hy
    unfold qf at hy
    split at hy
    · rcases List.mem_append.1 hy with hy | hy
      · exact pc_bytes a p y hy
      · exact ih _ y hy
    · simp at hy
theorem qt_bytes (a : ByteArray) : ∀ y ∈ qt a, 0 ≤ y ∧ y ≤ 255 := by
  intro y hy
  unfold qt at hy
  rcases List.mem_cons.1 hy with rfl | hy
  · omega
  · rcases List.mem_append.1 hy with hy | hy
    · exact qf_bytes a _ _ y hy
    · simp at hy; omega
theorem unq_qt (a : ByteArray) : unq (str (qt a)) = (a, 0, 0) := by
  have htx : tx (str (qt a)) = qt a := tx_str _ (qt_bytes a)
  have h0 : Suf (str (qt a)) 0 (qt a) := ⟨by omega, by rw [htx]; rfl⟩
  have h1 : Suf (str (qt a)) (0 + 1) (qf a a.size 0 ++ [34]) := Suf.next (L := [34]) h0
  have hs := h0.size
  have hl : (qt a).length = (qf a a.size 0).length + 2 := by simp [qt]
  have hb : bt (str (qt a)) 0 = 34 := h0.bt0
  have hu : uw (str (qt a)) = (true, (str (qt a)).size, tx a) := by
    unfold uw
    rw [if_pos ⟨by omega, hb⟩, un_all (str (qt a)) a _ 0 a.size _ 1 [] rfl (by omega) (by omega) (by omega) h1]
    rfl
  unfold unq
  rw [hu, if_pos rfl, str_tx, if_pos rfl]
/-- Bytes that are above 32 and not 127. -/
def cl (y : Int) : Prop := 32 < y ∧ y ≤ 255 ∧ y ≠ 127
theorem cl_hx (b : Nat) (h : b < 256) : ∀ y ∈ hx b, cl y := by
  intro y hy
  have h1 : 48 ≤ hd (b / 16) ∧ hd (b / 16) ≤ 102 := by unfold hd; split <;> omega
  have h2 : 48 ≤ hd (b % 16) ∧ hd (b % 16) ≤ 102 := by unfold hd; split <;> omega
  simp [hx] at hy
  unfold cl
  rcases hy with rfl | rfl | rfl | rfl <;> omega
theorem cl_hxs (l : List Int) (h : ∀ y ∈ l, 0 ≤ y ∧ y ≤ 255) : ∀ y ∈ hxs l, cl y := by
  induction l with
  | nil => intro y hy; simp [hxs] at hy
  | cons x r ih =>
    intro y hy
    rcases List.mem_append.1 hy with hy | hy
    · have := h x (by simp)
      exact cl_hx _ (by omega) y hy
    · exact ih (fun z hz => h z (by simp [hz])) y hy
theorem cl_pc (a : ByteArray) (p : Nat) (hp : p < a.size) : ∀ y ∈ pc a p, cl y := by
  have hw := dec_wd a p hp
  intro y hy
  unfold pc at hy
  by_cases hst : Utf8.decode a p = (65533, 1)
  · rw [if_pos hst] at hy; exact cl_hx _ (bt_lt a p) y hy
  · rw [if_neg hst] at hy
    have two : ∀ c : Int, cl c → y ∈ [92, c] → cl y := fun c hc hy => by
      simp at hy
      rcases hy with rfl | rfl
      · unfold cl; omega
      · exact hc
    by_cases a1 : (Utf8.decode a p).1 = 10
    · rw [if_pos a1] at hy; exact two _ (by unfold cl; omega) hy
    · rw [if_neg a1] at hy
      by_cases a2 : (Utf8.decode a p).1 = 9
      · rw [if_pos a2] at hy; exact two _ (by unfold cl; omega) hy
      · rw [if_neg a2] at hy
        by_cases a3 : (Utf8.decode a p).1 = 32
        · rw [if_pos a3] at hy; exact two _ (by unfold cl; omega) hy
        · rw [if_neg a3] at hy
          by_cases a4 : (Utf8.decode a p).1 = 34
          · rw [if_pos a4] at hy; exact two _ (by unfold cl; omega) hy
          · rw [if_neg a4] at hy
            by_cases a5 : (Utf8.decode a p).1 = 92
            · rw [if_pos a5] at hy; exact two _ (by unfold cl; omega) hy
            · rw [if_neg a5] at hy
              by_cases a6 : plain (Utf8.decode a p).1 = true
              · rw [if_pos a6] at hy
                obtain ⟨j, hj, rfl⟩ := List.mem_iff_getElem.1 hy
                rw [tx_len, ext_size a _ _ hw.2.1] at hj
                have hg := tx_get (a.extract p (p + (Utf8.decode a p).2)) j
                rw [List.getD_eq_getElem?_getD, List.getElem?_eq_getElem (by rw [tx_len, ext_size a _ _ hw.2.1]; exact hj), ext_bt a p _ j hw.2.1 (by omega)] at hg
                have hg : (tx (a.extract p (p + (Utf8.decode a p).2)))[j] = ((bt a (p + j) : Nat) : Int) := hg
                rw [hg]
                have hbl := bt_lt a (p + j)
                by_cases hb : bt a p < 128
                · have hd := dec_small a p hb
                  rw [hd] at a6 hj
                  have hj : j = 0 := by have : j < p + 1 - p := hj; omega
                  subst hj
                  have hpl : 32 < bt a p ∧ (bt a p < 127 ∨ 160 < bt a p) := by
                    unfold plain at a6
                    simp at a6
                    exact ⟨a6.1.1.1, a6.2⟩
                  unfold cl
                  rw [Nat.add_zero]
                  omega
                · have := (dec_big a p hp (by omega)).2.2.2.2 j (by omega)
                  unfold cl
                  omega
              · rw [if_neg a6] at hy
                exact cl_hxs _ (tx_bytes _) y hy
theorem cl_qf (a : ByteArray) : ∀ f p, ∀ y ∈ qf a f p, cl y := by
  intro f
  induction f with
  | zero => intro p y hy; simp [qf] at hy
  | succ f ih =>
    intro p y hy
    unfold qf at hy
    by_cases hp : p < a.size
    · rw [if_pos hp] at hy
      rcases List.mem_append.1 hy with hy | hy
      · exact cl_pc a p hp y hy
      · exact ih _ y hy
    · rw [if_neg hp] at hy
      simp at hy
/-- A text whose bytes are all above 32 and not 127. -/
def Cln (s : ByteArray) : Prop := s.size ≠ 0 ∧ ∀ j, j < s.size → 32 < bt s j ∧ bt s j ≠ 127
theorem cln_qt (a : ByteArray) : Cln (str (qt a)) := by
  have htx : tx (str (qt a)) = qt a := tx_str _ (qt_bytes a)
  have hs : (str (qt a)).size = (qt a).length := str_size _
  have hl : (qt a).length = (qf a a.size 0).length + 2 := by simp [qt]
  refine ⟨by omega, fun j hj => ?_⟩
  have hg := tx_get (str (qt a)) j
  rw [htx, List.getD_eq_getElem?_getD, List.getElem?_eq_getElem (by omega)] at hg
  have hg : (qt a)[j]'(by omega) = ((bt (str (qt a)) j : Nat) : Int) := hg
  have hm : (qt a)[j]'(by omega) ∈ qt a := List.getElem_mem _
  rw [hg] at hm
  clear hg
  generalize bt (str (qt a)) j = x at hm ⊢
  have hc : cl (x : Int) := by
    unfold qt at hm
    rcases List.mem_cons.1 hm with e | hm
    · rw [e]; unfold cl; omega
    · rcases List.mem_append.1 hm with hm | hm
      · exact cl_qf a _ _ _ hm
      · simp at hm
        have : (x : Int) = 34 := by omega
        rw [this]; unfold cl; omega
  unfold cl at hc
  omega
theorem nb_cl (x : Nat) (h : nb x = false) : 32 < x ∧ x ≠ 127 ∧ x ≠ 34 := by
  rcases nb_cases x with ⟨a, b, h'⟩ | ⟨a, b, h'⟩ | ⟨a, h'⟩ | ⟨a, h'⟩ | ⟨a, h'⟩ | ⟨a, h'⟩ | ⟨a, b, c, h'⟩ | ⟨a, b, c, h'⟩
  all_goals first | omega | (rw [h'] at h; simp at h)
theorem cln_wo (a : ByteArray) : Cln (wo a) := by
  unfold wo
  by_cases h : a.size ≠ 0 ∧ fb nb a 0 = a.size
  · rw [if_pos h]
    have := (fb_spec nb a 0 (by omega)).2.2.1
    refine ⟨h.1, fun j hj => ?_⟩
    have := nb_cl _ (this j (by omega) (by omega))
    omega
  · rw [if_neg h]; exact cln_qt a
theorem uo_wo (a : ByteArray) : uo (wo a) = (a, 0, 0) := by
  unfold wo
  by_cases h : a.size ≠ 0 ∧ fb nb a 0 = a.size
  · rw [if_pos h]
    have hn := (fb_spec nb a 0 (by omega)).2.2.1
    have h0 := nb_cl _ (hn 0 (by omega) (by omega))
    unfold uo
    rw [if_neg (fun x => h0.2.2 x.2), if_neg (fun x => by omega)]
  · rw [if_neg h]
    have htx : tx (str (qt a)) = qt a := tx_str _ (qt_bytes a)
    have h0 : Suf (str (qt a)) 0 (qt a) := ⟨by omega, by rw [htx]; rfl⟩
    have hs := h0.size
    have hl : (qt a).length = (qf a a.size 0).length + 2 := by simp [qt]
    have hb : bt (str (qt a)) 0 = 34 := h0.bt0
    unfold uo
    rw [if_pos ⟨by omega, hb⟩]
    exact unq_qt a
theorem qt_inj (a b : ByteArray) (h : str (qt a) = str (qt b)) : a = b := by
  have h1 := unq_qt a
  rw [h, unq_qt b] at h1
  exact (congrArg Prod.fst h1).symm
theorem wo_inj (a b : ByteArray) (h : wo a = wo b) : a = b := by
  have h1 := uo_wo a
  rw [h, uo_wo b] at h1
  exact (congrArg Prod.fst h1).symm
set_option maxRecDepth 1000000 in
set_option maxHeartbeats 1000000 in
theorem clean_any (s : ByteArray) (hs : s.size ≤ 1099511627776) (hc : Cln s) (w : World) : Calls Tryd.prog 11 #[.string s] w fun e w' => e = .returned (.bool true) ∧ w' = w := by
  have hne := ne_empty s hc.1
  have HC := hid hc.2
  clear hc
  go_enter Tryd.func11, Tryd.ntmps11
  go_wp2_with fail
  go_loop [2, 3] (fun x i => ∃ k : Nat, x = .bool false ∧ i = .int .i64 (k : Int) ∧ k ≤ s.size) (fun _ i => s.size - (intOf i).toNat)
  case atStart => exact ⟨0, rfl, rfl, by omega⟩
  case round =>
    obtain ⟨k, rfl, rfl, hk⟩ := hrel
    by_cases hlt : k < s.size
    · have hi : (s[k]'hlt).toNat = bt s k := bt_eq s k hlt
      have hb := HC.out k hlt
      have n1 : ¬ ((bt s k : Nat) : Int) ≤ 32 := by omega
      have n2 : (((bt s k : Nat) : Int) == 127) = false := by simp; omega
      clear hb
      go_wp2_with fail
      go_round
      case rel => exact ⟨k + 1, rfl, by go_num, by omega⟩
      case measure => simp [intOf]; omega
    · go_wp2_with fail
      go_ret
      exact ⟨rfl, rfl⟩
theorem qt_len (a : ByteArray) : (str (qt a)).size ≤ 4 * a.size + 2 := by
  have h : ∀ k p f, a.size - p = k → p ≤ a.size → a.size ≤ p + f → (qf a f p).length ≤ 4 * (a.size - p) := by
    intro k
    induction k using Nat.strongRecOn with
    | ind k ih =>
    intro p f hk hp hf
    by_cases hlt : p < a.size
    · have hw := dec_wd a p hlt
      have hl := pc_len a p hlt
      have := ih (a.size - (p + (Utf8.decode a p).2)) (by omega) (p + (Utf8.decode a p).2) (f - 1) rfl hw.2.1 (by omega)
      rw [qf_step a f p hlt hf, List.length_append]
      omega
    · rw [qf_end a f p hlt]; simp
  have := h _ 0 a.size rfl (by omega) (by omega)
  rw [str_size]
  have hl : (qt a).length = (qf a a.size 0).length + 2 := by simp [qt]
  omega
theorem wo_len (a : ByteArray) : (wo a).size ≤ 4 * a.size + 2 := by
  unfold wo
  split
  · omega
  · exact qt_len a
set_option maxRecDepth 1000000 in
set_option maxHeartbeats 2000000 in
theorem unlike_walk (a b : ByteArray) (ha : a.size ≤ 1048576) (hb : b.size ≤ 1048576) (w : World) (T : Hid (Lt w)) (F : Hid (Fm w)) :
    Calls Tryd.prog 3 #[.string a, .string b] w fun e w' => e = .returned (.bool true) ∧ Below w.heap.size w w' := by
  have hqa := qt_len a
  have hwa := wo_len a
  have HK := hid (works_any w T F)
  have HQ : Hid (∀ W, Hid (Lt W) → Calls Tryd.prog 7 #[.string a] W fun e w' => e = .returned (.string (str (qt a))) ∧ Below W.heap.size W w') := fun W TW => quote_any a (by omega) W TW
  have HW : Hid (∀ W, Hid (Lt W) → Calls Tryd.prog 8 #[.string a] W fun e w' => e = .returned (.string (wo a)) ∧ Below W.heap.size W w') := fun W TW => word_any a (by omega) W TW
  have HU : Hid (∀ W, Hid (Lt W) → Calls Tryd.prog 9 #[.string (str (qt a))] W fun e w' => e = .returned (.tuple #[.string a, .int .i64 0, .int .i64 0]) ∧ Below W.heap.size W w') := fun W TW => by
    have h := unquote_any (str (qt a)) (by omega) W TW
    rw [unq_qt] at h
    exact h
  have HV : Hid (∀ W, Hid (Lt W) → Calls Tryd.prog 10 #[.string (wo a)] W fun e w' => e = .returned (.tuple #[.string a, .int .i64 0, .int .i64 0]) ∧ Below W.heap.size W w') := fun W TW => by
    have h := unword_any (wo a) (by omega) W TW
    rw [uo_wo] at h
    exact h
  have HC : Hid (∀ W, Calls Tryd.prog 11 #[.string (str (qt a))] W fun e w' => e = .returned (.bool true) ∧ w' = W) := fun W => clean_any _ (by omega) (cln_qt a) W
  have HD : Hid (∀ W, Calls Tryd.prog 11 #[.string (wo a)] W fun e w' => e = .returned (.bool true) ∧ w' = W) := fun W => clean_any _ (by omega) (cln_wo a) W
  have HE : Hid (∀ W, Hid (Lt W) → Calls Tryd.prog 7 #[.string b] W fun e w' => e = .returned (.string (str (qt b))) ∧ Below W.heap.size W w') := fun W TW => quote_any b (by omega) W TW
  have HF : Hid (∀ W, Hid (Lt W) → Calls Tryd.prog 8 #[.string b] W fun e w' => e = .returned (.string (wo b)) ∧ Below W.heap.size W w') := fun W TW => word_any b (by omega) W TW
  have hq : Hid (((str (qt a)).toList == (str (qt b)).toList) = (a.toList == b.toList)) := by
    show _ = _
    by_cases h : a = b
    · rw [h]; simp
    · have n1 : ¬ (str (qt a)).toList = (str (qt b)).toList := fun e => h (qt_inj a b (toList_inj e))
      have n2 : ¬ a.toList = b.toList := fun e => h (toList_inj e)
      rw [beq_eq_false_iff_ne.2 n1, beq_eq_false_iff_ne.2 n2]
  have hv : Hid (((wo a).toList == (wo b).toList) = (a.toList == b.toList)) := by
    show _ = _
    by_cases h : a = b
    · rw [h]; simp
    · have n1 : ¬ (wo a).toList = (wo b).toList := fun e => h (wo_inj a b (toList_inj e))
      have n2 : ¬ a.toList = b.toList := fun e => h (toList_inj e)
      rw [beq_eq_false_iff_ne.2 n1, beq_eq_false_iff_ne.2 n2]
  generalize str (qt a) = A at *
  generalize str (qt b) = B at *
  generalize wo a = C at *
  generalize wo b = D at *
  clear hqa hwa
  go_enter Tryd.func3, Tryd.ntmps3
  go_wp2_with fail
  refine HK.out.mono ?_
  rintro e w1 ⟨rfl, b1⟩
  have b1h := hid b1
  clear HK b1
  go_wp2_with fail
  refine (HQ.out _ (T.out.later b1h.out)).mono ?_
  rintro e w2 ⟨rfl, b2⟩
  have b2h := hid (b1h.out.trans (b2.mono b1h.out.size))
  clear HQ b2 b1h
  go_wp2_with fail
  refine (HW.out _ (T.out.later b2h.out)).mono ?_
  rintro e w3 ⟨rfl, b3⟩
  have b3h := hid (b2h.out.trans (b3.mono b2h.out.size))
  clear HW b3 b2h
  go_wp2_with fail
  refine (HU.out _ (T.out.later b3h.out)).mono ?_
  rintro e w4 ⟨rfl, b4⟩
  have b4h := hid (b3h.out.trans (b4.mono b3h.out.size))
  clear HU b4 b3h
  go_wp2_with fail
  refine (HV.out _ (T.out.later b4h.out)).mono ?_
  rintro e w5 ⟨rfl, b5⟩
  have b5h := hid (b4h.out.trans (b5.mono b4h.out.size))
  clear HV b5 b4h
  have ta : (a.toList == a.toList) = true := beq_self_eq_true _
  go_wp2_with fail
  refine (HC.out _).mono ?_
  rintro e w6 ⟨rfl, rfl⟩
  clear HC
  go_wp2_with fail
  refine (HD.out _).mono ?_
  rintro e w6 ⟨rfl, rfl⟩
  clear HD
  go_wp2_with fail
  refine (HE.out _ (T.out.later b5h.out)).mono ?_
  rintro e w7 ⟨rfl, b7⟩
  have b7h := hid (b5h.out.trans (b7.mono b5h.out.size))
  clear HE b7 b5h
  have hq2 := hq.out
  have tb : ((a.toList == b.toList) == (a.toList == b.toList)) = true := beq_self_eq_true _
  go_wp2_with fail
  refine (HF.out _ (T.out.later b7h.out)).mono ?_
  rintro e w8 ⟨rfl, b8⟩
  have b8h := hid (b7h.out.trans (b8.mono b7h.out.size))
  clear HF b8 b7h
  have hv2 := hv.out
  go_wp2_with fail
  go_ret
  exact ⟨rfl, b8h.out⟩
end Go.Proofs.YtcjlgjlediihoabDoor.Rw
