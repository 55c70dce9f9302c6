/- Words put together and parted: in plain lists. -/
import Derived.Test.YtcjlgjlediihoabDoorUl
import Derived.Test.YtcjlgjlediihoabDoorTq
namespace Go.Proofs.YtcjlgjlediihoabDoor.Rw
open Go.ChangeShapes Go.WideShapes Go.ChangeAt Go.RowKit
open Go.Proofs.YtcjlgjlediihoabDoor.Ut
open Go.Proofs.YtcjlgjlediihoabDoor.By
open Go.Proofs.YtcjlgjlediihoabDoor.Sp
set_option linter.unusedVariables false
set_option linter.unusedSimpArgs false

/-- Bytes that a scan for the closing quote goes over. -/
inductive Okq : List Int → Prop
  | nil : Okq []
  | one (y : Int) (r : List Int) (h1 : y.toNat ≠ 92) (h2 : y.toNat ≠ 34) (h : Okq r) : Okq (y :: r)
  | two (c : Int) (r : List Int) (h : Okq r) : Okq (92 :: c :: r)
theorem Okq.app {a b : List Int} (h : Okq a) (k : Okq b) : Okq (a ++ b) := by
  induction h with
  | nil => exact k
  | one y r h1 h2 h ih => exact .one y _ h1 h2 ih
  | two c r h ih => exact .two c _ ih
theorem Okq.all (l : List Int) (h : ∀ y ∈ l, y.toNat ≠ 92 ∧ y.toNat ≠ 34) : Okq l := by
  induction l with
  | nil => exact .nil
  | cons y r ih => exact .one y r (h y (by simp)).1 (h y (by simp)).2 (ih fun z hz => h z (by simp [hz]))
theorem okq_hx (b : Nat) (h : b < 256) : Okq (hx b) := by
  have h1 : 48 ≤ hd (b / 16) ∧ hd (b / 16) ≤ 102 ∧ hd (b / 16) ≠ 92 := by unfold hd; split <;> omega
  have h2 : 48 ≤ hd (b % 16) ∧ hd (b % 16) ≤ 102 ∧ hd (b % 16) ≠ 92 := by unfold hd; split <;> omega
  exact .two 120 _ (.one _ _ (by omega) (by omega) (.one _ _ (by omega) (by omega) .nil))
theorem okq_hxs (l : List Int) (h : ∀ y ∈ l, 0 ≤ y ∧ y ≤ 255) : Okq (hxs l) := by
  induction l with
  | nil => exact .nil
  | cons x r ih =>
    have := h x (by simp)
    exact (okq_hx _ (by omega)).app (ih fun z hz => h z (by simp [hz]))
theorem okq_pc (a : ByteArray) (p : Nat) (hp : p < a.size) : Okq (pc a p) := by
  have hw := dec_wd a p hp
  unfold pc
  by_cases hst : Utf8.decode a p = (65533, 1)
  · rw [if_pos hst]; exact okq_hx _ (bt_lt a p)
  · rw [if_neg hst]
    by_cases a1 : (Utf8.decode a p).1 = 10
    · rw [if_pos a1]; exact .two _ _ .nil
    · rw [if_neg a1]
      by_cases a2 : (Utf8.decode a p).1 = 9
      · rw [if_pos a2]; exact .two _ _ .nil
      · rw [if_neg a2]
        by_cases a3 : (Utf8.decode a p).1 = 32
        · rw [if_pos a3]; exact .two _ _ .nil
        · rw [if_neg a3]
          by_cases a4 : (Utf8.decode a p).1 = 34
          · rw [if_pos a4]; exact .two _ _ .nil
          · rw [if_neg a4]
            by_cases a5 : (Utf8.decode a p).1 = 92
            · rw [if_pos a5]; exact .two _ _ .nil
            · rw [if_neg a5]
              by_cases a6 : plain (Utf8.decode a p).1 = true
              · rw [if_pos a6]
                apply Okq.all
                intro y hy
                obtain ⟨j, hj, rfl⟩ := List.mem_iff_getElem.1 hy
                rw [tx_len, ext_size a _ _ hw.2.1] at hj
                have hg := tx_get (a.extract p (p + (Utf8.decode a p).2)) j
                rw [List.getD_eq_getElem?_getD, List.getElem?_eq_getElem (by rw [tx_len, ext_size a _ _ hw.2.1]; exact hj), ext_bt a p _ j hw.2.1 (by omega)] at hg
                have hg : (tx (a.extract p (p + (Utf8.decode a p).2)))[j] = ((bt a (p + j) : Nat) : Int) := hg
                rw [hg, Int.toNat_natCast]
                by_cases hb : bt a p < 128
                · have hd := dec_small a p hb
                  rw [hd] at hj a4 a5
                  have hj : j = 0 := by have : j < p + 1 - p := hj; omega
                  subst hj
                  exact ⟨a5, a4⟩
                · have := (dec_big a p hp (by omega)).2.2.2.2 j (by omega)
                  omega
              · rw [if_neg a6]; exact okq_hxs _ (tx_bytes _)
theorem okq_qf (a : ByteArray) : ∀ f p, Okq (qf a f p) := by
  intro f
  induction f with
  | zero => intro p; exact .nil
  | succ f ih =>
    intro p
    unfold qf
    by_cases hp : p < a.size
    · rw [if_pos hp]; exact (okq_pc a p hp).app (ih _)
    · rw [if_neg hp]; exact .nil
theorem qe_ok (S : ByteArray) {l : List Int} (h : Okq l) : ∀ (g P : Nat) (R : List Int), S.size ≤ P + g → Suf S P (l ++ R) → ∃ g', S.size ≤ P + l.length + g' ∧ qe S g P false = qe S g' (P + l.length) false := by
  induction h with
  | nil => intro g P R hg _; exact ⟨g, by simpa using hg, by simp⟩
  | one y r h1 h2 _ ih =>
    intro g P R hg hs
    have hsz := hs.size
    simp only [List.cons_append, List.length_cons] at hsz
    have hb : bt S P = y.toNat := hs.bt0
    obtain ⟨g1, rfl⟩ : ∃ g1, g = g1 + 1 := ⟨g - 1, by omega⟩
    obtain ⟨g', h3, h4⟩ := ih g1 (P + 1) R (by omega) (Suf.next (L := [y]) hs)
    refine ⟨g', by simp only [List.length_cons]; omega, ?_⟩
    rw [qe, if_pos (by omega), if_neg (by simp), if_neg (by omega), if_neg (by omega), h4, List.length_cons, Nat.add_assoc, Nat.add_comm 1]
  | two c r _ ih =>
    intro g P R hg hs
    have hsz := hs.size
    simp only [List.cons_append, List.length_cons] at hsz
    have hb : bt S P = 92 := hs.bt0
    obtain ⟨g1, rfl⟩ : ∃ g1, g = g1 + 2 := ⟨g - 2, by omega⟩
    obtain ⟨g', h3, h4⟩ := ih g1 (P + 2) R (by omega) (Suf.next (L := [92, c]) hs)
    refine ⟨g', by simp only [List.length_cons]; omega, ?_⟩
    rw [qe, if_pos (by omega), if_neg (by simp), if_pos hb, qe, if_pos (by omega), if_pos rfl, Nat.add_assoc, h4]
    simp only [List.length_cons, Nat.add_assoc, Nat.add_comm 2]
theorem tx_inj (a b : ByteArray) (h : tx a = tx b) : a = b := by rw [← str_tx a, ← str_tx b, h]
/-- Where a word ends that stands there, with a blank or nothing behind. -/
theorem we_word (S a : ByteArray) (P : Nat) (R : List Int) (h : Suf S P (tx (wo a) ++ R)) (hR : R = [] ∨ ∃ r, R = 32 :: r) : we S P = (P + (wo a).size, true) := by
  have hsz := h.size
  rw [List.length_append, tx_len] at hsz
  have hc := cln_wo a
  have hb : ∀ j, j < (wo a).size → bt S (P + j) = bt (wo a) j := fun j hj => by
    rw [h.bt j, List.getD_eq_getElem?_getD, List.getElem?_append_left (by rw [tx_len]; exact hj), ← List.getD_eq_getElem?_getD, tx_get, Int.toNat_natCast]
  have h0 : bt S P = bt (wo a) 0 := by have := hb 0 (by have := hc.1; omega); rw [Nat.add_zero] at this; exact this
  have hend : (P + (wo a).size < S.size → bt S (P + (wo a).size) = 32) := fun hlt => by
    have hn := h.next
    rw [tx_len] at hn
    rcases hR with rfl | ⟨r, rfl⟩
    · simp at hsz; omega
    · exact hn.bt0
  unfold we
  by_cases hq : a.size ≠ 0 ∧ fb nb a 0 = a.size
  · have hwo : wo a = a := by unfold wo; rw [if_pos hq]
    have hn := (fb_spec nb a 0 (by omega)).2.2.1
    have hz := nb_cl _ (hn 0 (by omega) (by omega))
    rw [if_neg (by rw [h0, hwo]; exact hz.2.2)]
    have : fb isb S P = P + (wo a).size := fb_is isb S P _ (by omega) (by omega) (fun j h1 h2 => by
      have hj := hb (j - P) (by omega)
      rw [Nat.add_sub_cancel' h1] at hj
      have := hc.2 (j - P) (by omega)
      rw [hj]
      simp [isb]
      omega) (fun hlt => by simp [isb, hend hlt])
    rw [this]
  · have hwo : wo a = str (qt a) := by unfold wo; rw [if_neg hq]
    have htx : tx (wo a) = qt a := by rw [hwo]; exact tx_str _ (qt_bytes a)
    have hl : (qt a).length = (qf a a.size 0).length + 2 := by simp [qt]
    have hws : (wo a).size = (qt a).length := by rw [hwo, str_size]
    rw [htx] at h
    have b0 : bt S P = 34 := h.bt0
    rw [if_pos b0]
    have h1 : Suf S (P + 1) (qf a a.size 0 ++ ([34] ++ R)) := by
      have h' : Suf S P ([34] ++ (qf a a.size 0 ++ ([34] ++ R))) := by simpa [qt] using h
      exact h'.next
    obtain ⟨g, hg⟩ : ∃ g, S.size = g + 1 := ⟨S.size - 1, by omega⟩
    obtain ⟨g', e1, e2⟩ := qe_ok S (okq_qf a a.size 0) g (P + 1) ([34] ++ R) (by omega) h1
    have h2 := h1.next
    have b2 : bt S (P + 1 + (qf a a.size 0).length) = 34 := h2.bt0
    have s2 := h2.size
    simp only [List.length_append, List.length_cons, List.length_nil] at s2
    obtain ⟨g2, rfl⟩ : ∃ g2, g' = g2 + 1 := ⟨g' - 1, by omega⟩
    have e0 : qe S S.size P true = qe S g (P + 1) false := by
      rw [hg, qe, if_pos (by omega), if_pos rfl]
    rw [e0, e2, qe, if_pos (by omega), if_neg (by simp), if_neg (by omega), if_pos b2]
    congr 1
    omega
/-- Words with blanks ahead of each. -/
def jl : List (Nat × ByteArray) → List Int
  | [] => []
  | (n, a) :: r => List.replicate n 32 ++ (tx (wo a) ++ jl r)
theorem jl_app (x y : List (Nat × ByteArray)) : jl (x ++ y) = jl x ++ jl y := by
  induction x with
  | nil => rfl
  | cons p r ih => obtain ⟨n, a⟩ := p; simp [jl, ih]
theorem spA_blanks (S : ByteArray) (F : Nat) (acc : List ByteArray) : ∀ (n P : Nat) (R : List Int), Suf S P (List.replicate n 32 ++ R) → spA S F P acc = spA S F (P + n) acc := by
  intro n
  induction n with
  | zero => intro P R _; rfl
  | succ n ih =>
    intro P R h
    have h' : Suf S P ([32] ++ (List.replicate n 32 ++ R)) := by simpa [List.replicate_succ] using h
    have hs := h'.size
    rw [List.length_append] at hs
    have hl : ([32] : List Int).length = 1 := rfl
    have b0 : bt S P = 32 := h'.bt0
    rw [spA, dif_pos (by omega), dif_pos b0, ih (P + 1) R h'.next, Nat.add_assoc, Nat.add_comm 1]
theorem parted (S : ByteArray) : ∀ (l : List (Nat × ByteArray)) (P : Nat) (acc : List ByteArray), (∀ x ∈ l, 1 ≤ x.1) → Suf S P (jl l) → spA S S.size P acc = (acc ++ l.map (fun x => wo x.2), 0, 0)
  | [], P, acc, _, h => by
    have hs := h.size
    simp [jl] at hs
    rw [spA, dif_neg (by omega), if_neg (by omega)]
    simp
  | (n, a) :: r, P, acc, hn, h => by
    have h1 : Suf S P (List.replicate n 32 ++ (tx (wo a) ++ jl r)) := h
    rw [spA_blanks S S.size acc n P _ h1]
    have h2 : Suf S (P + n) (tx (wo a) ++ jl r) := by have := h1.next; rw [List.length_replicate] at this; exact this
    have hs := h2.size
    rw [List.length_append, tx_len] at hs
    have hc := cln_wo a
    have hR : jl r = [] ∨ ∃ r', jl r = 32 :: r' := by
      cases r with
      | nil => exact .inl rfl
      | cons x r' =>
        obtain ⟨m, b⟩ := x
        have hm := hn (m, b) (by simp)
        obtain ⟨m', rfl⟩ : ∃ m', m = m' + 1 := ⟨m - 1, by have : 1 ≤ m := hm; omega⟩
        exact .inr ⟨List.replicate m' 32 ++ (tx (wo b) ++ jl r'), by simp [jl, List.replicate_succ]⟩
    have hw := we_word S a (P + n) (jl r) h2 hR
    have b0 : bt S (P + n) = bt (wo a) 0 := by
      rw [h2.bt0, List.getD_eq_getElem?_getD, List.getElem?_append_left (by rw [tx_len]; have := hc.1; omega), ← List.getD_eq_getElem?_getD, tx_get, Int.toNat_natCast]
    have hb0 := hc.2 0 (by have := hc.1; omega)
    have hend : ¬ (P + n + (wo a).size < S.size ∧ bt S (P + n + (wo a).size) ≠ 32) := fun x => by
      have h3 := h2.next
      rw [tx_len] at h3
      rcases hR with e | ⟨r', e⟩
      · rw [e] at hs; simp at hs; omega
      · rw [e] at h3; exact x.2 h3.bt0
    have hx : S.extract (P + n) (P + n + (wo a).size) = wo a := tx_inj _ _ (by have := h2.take; rw [tx_len] at this; exact this)
    rw [Sq.spA_step S S.size (P + n) acc (by have := hc.1; omega) (by rw [b0]; omega), hw]
    rw [if_neg (by simp), if_neg hend, hx]
    rw [parted S r (P + n + (wo a).size) (acc ++ [wo a]) (fun x hx => hn x (by simp [hx])) (by have := h2.next; rw [tx_len] at this; exact this)]
    simp
theorem jl_bytes : ∀ (l : List (Nat × ByteArray)), ∀ y ∈ jl l, y = 32 ∨ cl y
  | [], y, hy => by simp [jl] at hy
  | (n, a) :: r, y, hy => by
    rcases List.mem_append.1 hy with hy | hy
    · exact .inl (List.eq_of_mem_replicate hy)
    · rcases List.mem_append.1 hy with hy | hy
      · right
        obtain ⟨j, hj, rfl⟩ := List.mem_iff_getElem.1 hy
        rw [tx_len] at hj
        have hg := tx_get (wo a) j
        rw [List.getD_eq_getElem?_getD, List.getElem?_eq_getElem (by rw [tx_len]; exact hj)] at hg
        have hg : (tx (wo a))[j]'(by rw [tx_len]; exact hj) = ((bt (wo a) j : Nat) : Int) := hg
        rw [hg]
        have := (cln_wo a).2 j hj
        have := bt_lt (wo a) j
        unfold cl
        omega
      · exact jl_bytes r y hy
theorem split_jl (l : List (Nat × ByteArray)) (hn : ∀ x ∈ l, 1 ≤ x.1) : Sq.split (str (jl l)) = (l.map (fun x => wo x.2), 0, 0) := by
  have hbs := jl_bytes l
  have htx : tx (str (jl l)) = jl l := tx_str _ (fun y hy => by
    rcases hbs y hy with e | h
    · omega
    · unfold cl at h; omega)
  have h0 : Suf (str (jl l)) 0 (jl l) := ⟨by omega, by rw [htx]; rfl⟩
  have hs := h0.size
  have hF : fb forb (str (jl l)) 0 = (str (jl l)).size := fb_is forb _ 0 _ (by omega) (by omega) (fun j _ hj => by
    have hb := h0.bt j
    rw [Nat.zero_add] at hb
    have hm : (jl l).getD j 0 ∈ jl l := by
      rw [List.getD_eq_getElem?_getD, List.getElem?_eq_getElem (by omega)]
      exact List.getElem_mem _
    have hy := hbs _ hm
    rw [hb]
    generalize (jl l).getD j 0 = y at hy
    rcases hy with e | h
    · rw [e]; decide
    · unfold cl at h
      have k1 : ¬ y.toNat < 32 := by omega
      have k2 : ¬ y.toNat = 127 := by omega
      simp [forb, k1, k2]) (fun h => by omega)
  unfold Sq.split
  rw [hF, parted _ l 0 [] hn h0]
  simp
end Go.Proofs.YtcjlgjlediihoabDoor.Rw
