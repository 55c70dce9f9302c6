/- A merged cursor over lists: Here and From, the law's moved and stands by contract. -/
import Derived.Test.YtgjodfaliajlgaaMy
namespace Go.Proofs.Ytgjodfaliajlgaa.Mh
open Go.ChangeShapes Go.WideShapes Go.ChangeAt Go.RowKit
open Go.Sort (grow)
open Go.Proofs.Ytgjodfaliajlgaa.Gr hiding hid addr_add
open Go.Proofs.Ytgjodfaliajlgaa.Ik
open Go.Proofs.Ytgjodfaliajlgaa.Ee
open Go.Proofs.Ytgjodfaliajlgaa.Cm (ik)
open Go.Proofs.Ytgjodfaliajlgaa.Mi
open Go.Proofs.Ytgjodfaliajlgaa.Hp
open Go.Proofs.Ytgjodfaliajlgaa.Hm hiding hv
open Go.Proofs.Ytgjodfaliajlgaa.Ls9 (Lb c4 hr hv hb)
open Go.Proofs.Ytgjodfaliajlgaa.Lm9
open Go.Proofs.Ytgjodfaliajlgaa.Gc9
open Go.Proofs.Ytgjodfaliajlgaa.Gb9
open Go.Proofs.Ytgjodfaliajlgaa.Gd9 hiding start_any mfirst_any
open Go.Proofs.Ytgjodfaliajlgaa.Pm
open Go.Proofs.Ytgjodfaliajlgaa.Mt
open Go.Proofs.Ytgjodfaliajlgaa.Mu (msome mseek_any)
open Go.Proofs.Ytgjodfaliajlgaa.Sk9 (Cut)
open Go.Proofs.Ytgjodfaliajlgaa.My
set_option linter.unusedVariables false
set_option linter.unusedSimpArgs false

def fr (L : List It) (p : Int) : Int := if hb L.length p then ((L.getD p.toNat zi).f : Int) else -1
section
variable {w : World} {gm gs N cs : Nat} {S : List Src} {L : List It} {X : Nat → Prop} {bk : Bool} {k : Nat}
set_option maxHeartbeats 1000000 in
set_option maxRecDepth 20000 in
theorem here_zero (gm gs N cs : Nat) (a : Option Addr) (c : Nat) (w : World) (c0 : w.cell? ⟨gm, 0, none⟩ = some (.slice (some ⟨gs, 0, none⟩) N cs)) (c1 : w.cell? ⟨gm, 1, none⟩ = some (.slice a 0 c)) :
    Calls Try.prog 26 #[.pointer (some ⟨gm, 0, none⟩)] w fun e w' => e = .returned (.tuple #[.agg (c4 ze), .bool false]) ∧ Below w.heap.size w w' := by
  obtain ⟨W0, hW0⟩ : ∃ W, W = w.alloc (.cells #[.string ⟨#[]⟩, .int .u64 0, .int .i64 0, .string ⟨#[]⟩] 43) := ⟨_, rfl⟩
  have B0 : Below w.heap.size w W0 := by rw [hW0]; exact box_below _ _
  have HI := isnone_some gm N cs ⟨gs, 0, none⟩ W0 ((B0.cell (block_lt_of_cell c0)).trans c0)
  have HJ := isempty_any gm a 0 c W0 ((B0.cell (block_lt_of_cell c1)).trans c1)
  rw [hW0] at HI HJ B0
  replace HI := hid HI
  replace HJ := hid HJ
  replace B0 := hid B0
  unfold c4 ze
  dsimp only
  clear c0 c1 hW0
  go_enter Try.func26, Try.ntmps26
  go_wp2_with fail
  refine HI.out.mono ?_
  rintro e w1 ⟨rfl, rfl⟩
  go_wp2_with fail
  refine HJ.out.mono ?_
  rintro e w1 ⟨rfl, rfl⟩
  go_wp2_with fail
  exact bodyPost_ret (v := .tuple #[.agg #[.string ⟨#[]⟩, .int .u64 0, .int .i64 0, .string ⟨#[]⟩], .bool false]) (by simp [results, Try.results26, go_sem]) rfl ⟨rfl, B0.out⟩
set_option maxHeartbeats 1000000 in
set_option maxRecDepth 20000 in
theorem from_zero (gm gs N cs : Nat) (a : Option Addr) (c : Nat) (w : World) (c0 : w.cell? ⟨gm, 0, none⟩ = some (.slice (some ⟨gs, 0, none⟩) N cs)) (c1 : w.cell? ⟨gm, 1, none⟩ = some (.slice a 0 c)) :
    Calls Try.prog 27 #[.pointer (some ⟨gm, 0, none⟩)] w fun e w' => e = .returned (.int .i64 (-1)) ∧ Below w.heap.size w w' := by
  have HI := hid (isnone_some gm N cs ⟨gs, 0, none⟩ w c0)
  have HJ := hid (isempty_any gm a 0 c w c1)
  have hB := hid (Below.refl w.heap.size w)
  clear c0 c1
  go_enter Try.func27, Try.ntmps27
  go_wp2_with fail
  refine HI.out.mono ?_
  rintro e w1 ⟨rfl, rfl⟩
  go_wp2_with fail
  refine HJ.out.mono ?_
  rintro e w1 ⟨rfl, rfl⟩
  go_wp2_with fail
  go_ret
  exact ⟨rfl, hB.out⟩
theorem hr_map {L : List It} {j : Nat} (hj : j < L.length) : hr (L.map It.e) (j : Int) = some (L.getD j zi).e := by
  unfold hr
  rw [if_pos (by rw [List.length_map]; omega)]
  have : ((j : Int)).toNat = j := by omega
  rw [this, getD_get ze (by rw [List.length_map]; exact hj), getD_get zi hj, List.getElem_map]
theorem hr_none {L : List It} {p : Int} (h : hb L.length p = false) : hr (L.map It.e) p = none := by
  unfold hr
  rw [if_neg]
  rintro ⟨h1, h2⟩
  rw [List.length_map] at h2
  unfold hb at h
  rw [decide_eq_true h1, decide_eq_true h2] at h
  cases h
theorem mhere_any (M : Ms w gm gs N cs S L X bk k) :
    Calls Try.prog 26 #[.pointer (some ⟨gm, 0, none⟩)] w fun e w' => e = .returned (.tuple #[.agg (hv (L.map It.e) (pos bk k)), .bool (hb L.length (pos bk k))]) ∧ Below w.heap.size w w' := by
  have hi2 := ins_hb L bk k M.kl
  cases hi : ins L bk k with
  | true =>
    obtain ⟨j, hj, hkj, hpj⟩ := ins_at hi M.kl
    rcases M.h with ⟨gl, c, H, h1, h2, h3, _⟩ | ⟨h1, h2, h3⟩
    · obtain ⟨hpos, htop⟩ := M.t.a.top bk k j h2 h3 hj hkj
      have := here_at gm gs N cs gl H.length c bk H w h1 hpos
      rw [htop] at this
      rw [← hi2, hi, ← hpj]
      unfold hv
      rw [hr_map hj]
      exact this
    · subst h1 h2; simp at hkj
  | false =>
    obtain ⟨a, n, c, c1, hn, c2⟩ := hdr M
    rw [hi] at hn
    have hn0 : n = 0 := by simpa using hn
    subst hn0
    rw [← hi2, hi]
    unfold hv
    rw [hr_none (by rw [← hi2]; exact hi)]
    exact here_zero gm gs N cs a c w (msome M) c1
theorem mfrom_any (M : Ms w gm gs N cs S L X bk k) :
    Calls Try.prog 27 #[.pointer (some ⟨gm, 0, none⟩)] w fun e w' => e = .returned (.int .i64 (fr L (pos bk k))) ∧ Below w.heap.size w w' := by
  have hi2 := ins_hb L bk k M.kl
  cases hi : ins L bk k with
  | true =>
    obtain ⟨j, hj, hkj, hpj⟩ := ins_at hi M.kl
    rcases M.h with ⟨gl, c, H, h1, h2, h3, _⟩ | ⟨h1, h2, h3⟩
    · obtain ⟨hpos, htop⟩ := M.t.a.top bk k j h2 h3 hj hkj
      have := from_at gm gs N cs gl H.length c bk H w h1 hpos
      rw [htop] at this
      unfold fr
      rw [← hi2, hi, if_pos rfl, ← hpj, show ((j : Int)).toNat = j by omega]
      exact this
    · subst h1 h2; simp at hkj
  | false =>
    obtain ⟨a, n, c, c1, hn, c2⟩ := hdr M
    rw [hi] at hn
    have hn0 : n = 0 := by simpa using hn
    subst hn0
    unfold fr
    rw [← hi2, hi, if_neg (by simp)]
    exact from_zero gm gs N cs a c w (msome M) c1
/-- Where it stands behind a move. -/
def mvI (T : Nat) (p : Int) (c : Int) (m : Nat) : Int := if c = 0 then 0 else if c = 1 then (T : Int) - 1 else if c = 2 then (m : Int) else if c = 3 then tgt T false p else tgt T true p
theorem wk_first {e : Ending} {w' : World} {t : Int} {bk' : Bool} {k' : Nat} (h : Post w gm gs N cs S L X bk' k' e w') (ht : pos bk' k' = t) : ∃ b, e = .returned (.bool b) ∧ Wk w gm gs N cs S L X t b w' := ⟨_, h.1, bk', k', rfl, h.2.1, h.2.2, ht⟩
theorem wk_from {V : World} {t : Int} {b : Bool} {w' : World} (h : Wk V gm gs N cs S L X t b w') (f : Below w.heap.size w V) : Wk w gm gs N cs S L X t b w' := by
  obtain ⟨bk, k, h1, h2, h3, h4⟩ := h
  exact ⟨bk, k, h1, h2, (Fp.of f).tr (h3.wide (fun j _ h => .inl h)), h4⟩
set_option maxHeartbeats 1000000 in
set_option maxRecDepth 20000 in
theorem moved_any (M : Ms w gm gs N cs S L X bk k) (c : Int) (q : ByteArray) (s z : Int) (m : Nat) (hm : Cut (L.map It.e) (ik q s z) m) (hc : 0 ≤ c ∧ c ≤ 4) :
    Calls Try.prog 12 #[.pointer (some ⟨gm, 0, none⟩), .agg #[.int .i64 c, .string q, .int .u64 s, .int .i64 z]] w fun e w' => ∃ b, e = .returned (.tuple #[.bool b, .bool true]) ∧ Wk w gm gs N cs S L X (mvI L.length (pos bk k) c m) b w' := by
  obtain ⟨W, hW⟩ : ∃ W, W = w.alloc (.cells #[.int .i64 c, .string q, .int .u64 s, .int .i64 z] 35) := ⟨_, rfl⟩
  obtain ⟨g, hg⟩ : ∃ g, g = w.heap.size := ⟨_, rfl⟩
  have BW : Below w.heap.size w W := by rw [hW]; exact box_below _ _
  have MW := M.later BW
  have KB : W.heap[g]? = some (.cells #[.int .i64 c, .string q, .int .u64 s, .int .i64 z] 35) := by rw [hW, hg]; exact new_at _ _
  have k0 := cell_of KB 0 _ rfl
  have k1 := cell_of KB 1 _ rfl
  have k2 := cell_of KB 2 _ rfl
  have k3 := cell_of KB 3 _ rfl
  have HF : Hid (∀ t b w', Wk W gm gs N cs S L X t b w' → Wk w gm gs N cs S L X t b w') := fun t b w' h => wk_from h BW
  have C0 := hid (Mu.first_any MW)
  have C1 := hid (Mu.last_any MW)
  have C2 := hid (mseek_any MW q s z m hm)
  have C3 := hid (My.next_any MW)
  have C4 := hid (My.prev_any MW)
  replace hW := hid hW
  replace hg := hid hg
  clear KB BW M MW hm
  have hcc : c = 0 ∨ c = 1 ∨ c = 2 ∨ c = 3 ∨ c = 4 := by omega
  rcases hcc with rfl | rfl | rfl | rfl | rfl
  · have HC := hid (C0.out.mono (fun e w' h => wk_first h (t := 0) rfl))
    have hfin : Hid (∀ b w', Wk W gm gs N cs S L X 0 b w' → Wk w gm gs N cs S L X (mvI L.length (pos bk k) 0 m) b w') := fun b w' h => HF.out _ _ _ h
    clear HF C0 C1 C2 C3 C4
    go_enter Try.func12, Try.ntmps12
    go_wp2_with fail
    rw [← hW.out]
    try rw [← hg.out]
    try go_wp2_with fail
    refine HC.out.mono ?_
    rintro e w1 ⟨b, rfl, h1⟩
    have b2 := hid (hfin.out _ _ h1)
    clear h1 HC
    go_wp2_with fail
    exact bodyPost_ret (v := .tuple #[.bool b, .bool true]) (by simp [results, Try.results12, go_sem]) rfl ⟨_, rfl, b2.out⟩
  · have HC := hid (C1.out.mono (fun e w' h => wk_first h (t := (L.length : Int) - 1) rfl))
    have hfin : Hid (∀ b w', Wk W gm gs N cs S L X ((L.length : Int) - 1) b w' → Wk w gm gs N cs S L X (mvI L.length (pos bk k) 1 m) b w') := fun b w' h => HF.out _ _ _ h
    clear HF C0 C1 C2 C3 C4
    go_enter Try.func12, Try.ntmps12
    go_wp2_with fail
    rw [← hW.out]
    try rw [← hg.out]
    try go_wp2_with fail
    refine HC.out.mono ?_
    rintro e w1 ⟨b, rfl, h1⟩
    have b2 := hid (hfin.out _ _ h1)
    clear h1 HC
    go_wp2_with fail
    exact bodyPost_ret (v := .tuple #[.bool b, .bool true]) (by simp [results, Try.results12, go_sem]) rfl ⟨_, rfl, b2.out⟩
  · have HC := hid (C2.out.mono (fun e w' h => wk_first h (t := (m : Int)) rfl))
    have hfin : Hid (∀ b w', Wk W gm gs N cs S L X (m : Int) b w' → Wk w gm gs N cs S L X (mvI L.length (pos bk k) 2 m) b w') := fun b w' h => HF.out _ _ _ h
    clear HF C0 C1 C2 C3 C4
    go_enter Try.func12, Try.ntmps12
    go_wp2_with fail
    rw [← hW.out]
    try rw [← hg.out]
    try go_wp2_with fail
    refine HC.out.mono ?_
    rintro e w1 ⟨b, rfl, h1⟩
    have b2 := hid (hfin.out _ _ h1)
    clear h1 HC
    go_wp2_with fail
    exact bodyPost_ret (v := .tuple #[.bool b, .bool true]) (by simp [results, Try.results12, go_sem]) rfl ⟨_, rfl, b2.out⟩
  · have HC := hid C3.out
    have hfin : Hid (∀ b w', Wk W gm gs N cs S L X (tgt L.length false (pos bk k)) b w' → Wk w gm gs N cs S L X (mvI L.length (pos bk k) 3 m) b w') := fun b w' h => HF.out _ _ _ h
    generalize tgt L.length false (pos bk k) = tt at *
    clear HF C0 C1 C2 C3 C4
    go_enter Try.func12, Try.ntmps12
    go_wp2_with fail
    rw [← hW.out]
    try rw [← hg.out]
    try go_wp2_with fail
    refine HC.out.mono ?_
    rintro e w1 ⟨b, rfl, h1⟩
    have b2 := hid (hfin.out _ _ h1)
    clear h1 HC
    go_wp2_with fail
    exact bodyPost_ret (v := .tuple #[.bool b, .bool true]) (by simp [results, Try.results12, go_sem]) rfl ⟨_, rfl, b2.out⟩
  · have HC := hid C4.out
    have hfin : Hid (∀ b w', Wk W gm gs N cs S L X (tgt L.length true (pos bk k)) b w' → Wk w gm gs N cs S L X (mvI L.length (pos bk k) 4 m) b w') := fun b w' h => HF.out _ _ _ h
    generalize tgt L.length true (pos bk k) = tt at *
    clear HF C0 C1 C2 C3 C4
    go_enter Try.func12, Try.ntmps12
    go_wp2_with fail
    rw [← hW.out]
    try rw [← hg.out]
    try go_wp2_with fail
    refine HC.out.mono ?_
    rintro e w1 ⟨b, rfl, h1⟩
    have b2 := hid (hfin.out _ _ h1)
    clear h1 HC
    go_wp2_with fail
    exact bodyPost_ret (v := .tuple #[.bool b, .bool true]) (by simp [results, Try.results12, go_sem]) rfl ⟨_, rfl, b2.out⟩
set_option maxHeartbeats 1000000 in
set_option maxRecDepth 20000 in
theorem moved_else (v : Value) (c : Int) (q : ByteArray) (s z : Int) (w : World) (hc : c < 0 ∨ 4 < c) :
    Calls Try.prog 12 #[v, .agg #[.int .i64 c, .string q, .int .u64 s, .int .i64 z]] w fun e w' => e = .returned (.tuple #[.bool false, .bool false]) ∧ Below w.heap.size w w' := by
  obtain ⟨W, hW⟩ : ∃ W, W = w.alloc (.cells #[.int .i64 c, .string q, .int .u64 s, .int .i64 z] 35) := ⟨_, rfl⟩
  have BW : Below w.heap.size w W := by rw [hW]; exact box_below _ _
  have n0 : (c == 0) = false := by rw [beq_eq_false_iff_ne]; omega
  have n1 : (c == 1) = false := by rw [beq_eq_false_iff_ne]; omega
  have n2 : (c == 2) = false := by rw [beq_eq_false_iff_ne]; omega
  have n3 : (c == 3) = false := by rw [beq_eq_false_iff_ne]; omega
  have n4 : (c == 4) = false := by rw [beq_eq_false_iff_ne]; omega
  rw [hW] at BW
  replace BW := hid BW
  replace hc := hid hc
  clear hW
  go_enter Try.func12, Try.ntmps12
  go_wp2_with fail
  exact bodyPost_ret (v := .tuple #[.bool false, .bool false]) (by simp [results, Try.results12, go_sem]) rfl ⟨rfl, BW.out⟩
end
end Go.Proofs.Ytgjodfaliajlgaa.Mh
