/- SkipRises walked. -/
import Derived.Test.YthnmoidfdojoiaaWk
import Derived.Test.YthnmoidfdojoiaaGn
namespace Go.Proofs.Ythnmoidfdojoiaa.Sr
open Go.ChangeShapes Go.WideShapes Go.ChangeAt Go.RowKit
open Go.Sort (grow)
open Go.Proofs.Ythnmoidfdojoiaa.Ik
open Go.Proofs.Ythnmoidfdojoiaa.Sg
open Go.Proofs.Ythnmoidfdojoiaa.Cm (ik)
open Go.Proofs.Ythnmoidfdojoiaa.Vl
open Go.Proofs.Ythnmoidfdojoiaa.Mm
open Go.Proofs.Ythnmoidfdojoiaa.Tr
open Go.Proofs.Ythnmoidfdojoiaa.Li
open Go.Proofs.Ythnmoidfdojoiaa.In
open Go.Proofs.Ythnmoidfdojoiaa.Oi
set_option linter.unusedVariables false
set_option linter.unusedSimpArgs false

open Go.Proofs.Ythnmoidfdojoiaa.Tl
open Go.Proofs.Ythnmoidfdojoiaa.Fi

open Go.Proofs.Ythnmoidfdojoiaa.Pu

open Go.Proofs.Ythnmoidfdojoiaa.Wk (key_any works_any)
open Go.Proofs.Ythnmoidfdojoiaa.Ge
open Go.Proofs.Ythnmoidfdojoiaa.Gn

theorem kcs_get (ns : List N) : ∀ (l : List Nat) (i n : Nat), l[i]? = some n → (kcs ns l)[i * 3]? = some (.string (nd ns n).k) ∧ (kcs ns l)[i * 3 + 1]? = some (.int .u64 (nd ns n).s) ∧ (kcs ns l)[i * 3 + 2]? = some (.int .i64 (nd ns n).c)
  | [], i, n, h => by simp at h
  | x :: l, 0, n, h => by simp at h; subst h; simp [kcs]
  | x :: l, i + 1, n, h => by
    have := kcs_get ns l i n (by simpa using h)
    have e : kcs ns (x :: l) = [.string (nd ns x).k, .int .u64 (nd ns x).s, .int .i64 (nd ns x).c] ++ kcs ns l := by simp [kcs]
    rw [e]
    have q : ∀ j, ([.string (nd ns x).k, .int .u64 (nd ns x).s, .int .i64 (nd ns x).c] ++ kcs ns l)[3 + j]? = (kcs ns l)[j]? := fun j => by rw [List.getElem?_append_right (by simp)]; simp
    rw [show (i + 1) * 3 = 3 + i * 3 by omega, show 3 + i * 3 + 1 = 3 + (i * 3 + 1) by omega, show 3 + i * 3 + 2 = 3 + (i * 3 + 2) by omega, q, q, q]
    exact this
theorem OwnK.cells {w : World} {base g c m : Nat} {ns : List N} {l : List Nat} (h : OwnK w base (.slice (some ⟨g, 0, none⟩) m c) ns l) (i n : Nat) (hi : l[i]? = some n) : w.cell? ⟨g, i * 3, none⟩ = some (.string (nd ns n).k) ∧ w.cell? ⟨g, i * 3 + 1, none⟩ = some (.int .u64 (nd ns n).s) ∧ w.cell? ⟨g, i * 3 + 2, none⟩ = some (.int .i64 (nd ns n).c) := by
  obtain ⟨a, c', he, _⟩ := row_shape h
  simp only [Value.slice.injEq] at he
  obtain ⟨_, rfl, _⟩ := he
  have hl : i < l.length := (List.getElem?_eq_some_iff.1 hi).1
  obtain ⟨h0, h1, h2⟩ := kcs_get ns l i n hi
  exact ⟨by rw [World.ownsRow.cellAt h _ (by omega)]; exact h0, by rw [World.ownsRow.cellAt h _ (by omega)]; exact h1, by rw [World.ownsRow.cellAt h _ (by omega)]; exact h2⟩
set_option maxHeartbeats 2000000 in
/-- Who stands in a row that is one of another's, in order. -/
theorem subset_yes (v u : Value) (base base' : Nat) (xs ys : List Int) (w : World) (A : OwnZ w base v xs) (B : OwnZ w base' u ys) (hs : xs.Sublist ys) (hl : ys.length ≤ 1000000000) :
    Calls Try.prog 37 #[v, u] w fun e w' => e = .returned (.bool true) ∧ Below w.heap.size w w' := by
  obtain ⟨a, c, rfl, ha⟩ := A.shape
  obtain ⟨a', c', rfl, ha'⟩ := B.shape
  have hxy := hs.length_le
  have hA := hid A
  have hB := hid B
  replace hs := hid hs
  clear A B
  go_enter Try.func37, Try.ntmps37
  go_wp2_with fail
  go_loopw [5, 6] (fun iv kv wr => ∃ i k : Nat, iv = .int .i64 (i : Int) ∧ kv = .int .i64 (k : Int) ∧ i ≤ xs.length ∧ k ≤ ys.length ∧ Hid ((xs.drop i).Sublist (ys.drop k)) ∧ Hid (Below w.heap.size w wr)) (fun _ kv _ => ys.length - (intOf kv).toNat)
  case atStart => exact ⟨0, 0, rfl, rfl, Nat.zero_le _, Nat.zero_le _, by simpa [Hid] using hs.out, Below.refl _ _⟩
  case round =>
    obtain ⟨i, k, rfl, rfl, hi, hk, HS, HB⟩ := hrel
    by_cases hk2 : k < ys.length
    · by_cases hi2 : i < xs.length
      · obtain ⟨g, rfl⟩ : ∃ g, a = some ⟨g, 0, none⟩ := by
          rcases ha with rfl | h
          · rcases hA.out.2 with ⟨_, h0⟩ | ⟨_, _, _, e, _⟩
            · omega
            · simp at e
          · exact h
        obtain ⟨g', rfl⟩ : ∃ g, a' = some ⟨g, 0, none⟩ := by
          rcases ha' with rfl | h
          · rcases hB.out.2 with ⟨_, h0⟩ | ⟨_, _, _, e, _⟩
            · omega
            · simp at e
          · exact h
        have c1 := (hA.out.later HB.out).cell i hi2
        have c2 := (hB.out.later HB.out).cell k hk2
        have d1 : xs.drop i = xs.getD i 0 :: xs.drop (i + 1) := by rw [List.drop_eq_getElem_cons hi2, List.getD_eq_getElem?_getD, List.getElem?_eq_getElem hi2]; rfl
        have d2 : ys.drop k = ys.getD k 0 :: ys.drop (k + 1) := by rw [List.drop_eq_getElem_cons hk2, List.getD_eq_getElem?_getD, List.getElem?_eq_getElem hk2]; rfl
        have hS2 := HS.out
        rw [d1, d2] at hS2
        generalize xs.getD i 0 = x at *
        generalize ys.getD k 0 = y at *
        have i1 : (k : Int) < (ys.length : Int) := by omega
        have i2 : (i : Int) < (xs.length : Int) := by omega
        by_cases hxy' : x = y
        · subst hxy'
          have hS3 : Hid ((xs.drop (i + 1)).Sublist (ys.drop (k + 1))) := by simpa [Hid] using hS2
          have hxx : (x == x) = true := by simp
          clear d1 d2 hS2 HS
          go_wp2_with fail
          go_quiet (fail)
          go_wp2_with fail
          refine ⟨⟨i + 1, k + 1, by simp, by simp, by omega, by omega, hS3, HB.out.trans ((drewN_below wr _).mono HB.out.size)⟩, ?_⟩
          simp only [intOf]; omega
        · have hS3 : Hid ((xs.drop i).Sublist (ys.drop (k + 1))) := by
            show List.Sublist _ _
            rw [d1]
            cases hS2 with
            | cons _ h => exact h
            | cons_cons _ h => exact absurd rfl hxy'
          have hxx : (x == y) = false := by simpa using hxy'
          clear d1 d2 hS2 HS
          go_wp2_with fail
          go_quiet (fail)
          go_wp2_with fail
          refine ⟨⟨i, k + 1, rfl, by simp, hi, by omega, hS3, HB.out.trans ((drewN_below wr _).mono HB.out.size)⟩, ?_⟩
          simp only [intOf]; omega
      · have ei : i = xs.length := by omega
        have i1 : (k : Int) < (ys.length : Int) := by omega
        have i2 : ¬ (i : Int) < (xs.length : Int) := by omega
        subst ei
        have hxx : ((xs.length : Int) == (xs.length : Int)) = true := by simp
        go_wp2_with fail
        go_ret
        exact ⟨by simp, HB.out⟩
    · have ek : k = ys.length := by omega
      have ei : i = xs.length := by
        have := HS.out.length_le
        simp at this; omega
      have i1 : ¬ (k : Int) < (ys.length : Int) := by omega
      subst ei
      have hxx : ((xs.length : Int) == (xs.length : Int)) = true := by simp
      go_wp2_with fail
      go_ret
      exact ⟨by simp, HB.out⟩
/-! ### The levels -/
theorem top_has : ∀ (l : List N) (a lv : Nat), lv < l.foldl (fun m x => max m x.h) a → lv < a ∨ ∃ x ∈ l, lv < x.h
  | [], a, lv, h => .inl h
  | y :: l, a, lv, h => by
    rcases top_has l (max a y.h) lv h with h | ⟨x, hx, h⟩
    · by_cases h1 : lv < a
      · exact .inl h1
      · exact .inr ⟨y, by simp, by omega⟩
    · exact .inr ⟨x, by simp [hx], h⟩
theorem chain_some {ns : List N} {ord : List Nat} (G : Gd ns ord) (lv : Nat) (h : lv < top ns) : chain ns ord lv ≠ [] := by
  rcases top_has ns 0 lv h with h | ⟨x, hx, h⟩
  · omega
  · obtain ⟨i, hi, e⟩ := List.mem_iff_getElem.1 hx
    have hm : i + 1 ∈ ord := (G.mem (i + 1)).2 ⟨by omega, by omega⟩
    have hn : nd ns (i + 1) = x := by
      rw [nd_pos (by omega), List.getD_eq_getElem?_getD, show i + 1 - 1 = i by omega, List.getElem?_eq_getElem hi]
      exact e
    intro he
    have : i + 1 ∈ chain ns ord lv := mem_chain.2 ⟨hm, by rw [hn]; exact h⟩
    rw [he] at this; cases this
theorem chain_sublist (ns : List N) (ord : List Nat) (lv : Nat) : (zi (lnk ns ord ((lv : Int) + 1))).Sublist (zi (chain ns ord lv)) := by
  have e : lnk ns ord ((lv : Int) + 1) = chain ns ord (lv + 1) := by
    unfold lnk; rw [if_neg (by omega), show ((lv : Int) + 1).toNat = lv + 1 by omega]
  rw [e]
  refine List.Sublist.map _ ?_
  have : chain ns ord (lv + 1) = (chain ns ord lv).filter fun n => decide (lv + 1 < (nd ns n).h) := by
    unfold chain
    rw [List.filter_filter]
    apply List.filter_congr
    intro n _
    by_cases h : lv + 1 < (nd ns n).h
    · simp [h]; omega
    · simp [h]
  rw [this]
  exact List.filter_sublist
theorem top_zero {ns : List N} {ord : List Nat} (G : Gd ns ord) : top ns = 0 ↔ ns.length = 0 := by
  constructor
  · intro h
    cases hn : ns with
    | nil => rfl
    | cons x l =>
      have h1 := top_le (ns := ns) (x := x) (by rw [hn]; simp)
      have h2 := (G.hs x (by rw [hn]; simp)).1
      omega
  · intro h
    have : ns = [] := List.eq_nil_of_length_eq_zero h
    subst this; rfl
set_option maxHeartbeats 8000000 in
set_option maxRecDepth 100000 in
theorem rises_any (a : Option Addr) (len cap : Nat) (ps : List P4) (w : World) (H : Puts w a len cap ps) (hlen : len ≤ 140737488355328) :
    Calls Try.prog 6 #[.slice a len cap] w fun e w' => e = .returned (.bool true) ∧ Below w.heap.size w w' := by
  have HWk := hid (works_any w)
  have HP := hid H
  obtain ⟨ns, hns⟩ : ∃ ns, ns = (mk 0 ps len).ns := ⟨_, rfl⟩
  obtain ⟨ord, hord⟩ : ∃ ord, ord = (mk 0 ps len).ord := ⟨_, rfl⟩
  obtain ⟨tk, htk⟩ : ∃ tk, tk = (mk 0 ps len).tk := ⟨_, rfl⟩
  have hml : tk.length = ns.length ∧ ns.length ≤ 1048576 := by rw [htk, hns]; exact mk_len 0 ps len
  obtain ⟨hml, hml2⟩ := hml
  have HM : Hid (∀ W, Puts W a len cap ps → Calls Try.prog 34 #[.slice a len cap, .int .i64 0] W fun e w' => ∃ v, e = .returned (.tuple #[.pointer (some ⟨W.heap.size + 1, 0, none⟩), v]) ∧ (∃ b, SL w' W.heap.size (W.heap.size + 1) b 1048576 ns ord) ∧ OwnZ w' W.heap.size v (zi tk) ∧ Below W.heap.size W w') := fun W hW => by rw [hns, hord, htk]; exact made_any a len cap ps 0 W hW (by omega) hlen
  clear H hns hord htk
  replace hml := hid hml
  go_enter Try.func6, Try.ntmps6
  go_wp2_with fail
  refine HWk.out.mono ?_
  rintro e v1 ⟨rfl, c1⟩
  have HM1 := HM.out v1 (HP.out.later c1)
  have B1 := hid c1
  clear c1 HWk HM
  replace HM1 := hid HM1
  obtain ⟨g, hg⟩ : ∃ g, g = v1.heap.size + 1 := ⟨_, rfl⟩
  rw [← hg] at HM1
  replace hg := hid hg
  go_wp2_with fail
  refine HM1.out.mono ?_
  rintro e v2 ⟨vt, rfl, ⟨b, S2⟩, OT, c2⟩
  obtain ⟨at', ct, hvt, _⟩ := OT.shape
  subst hvt
  rw [zi_len, hml.out]
  obtain ⟨base, hbs⟩ : ∃ base, base = v1.heap.size := ⟨_, rfl⟩
  rw [← hbs] at S2
  have B2 := hid (B1.out.trans (c2.mono B1.out.size))
  have G : Gd ns ord := by obtain ⟨_, _, _, G, _⟩ := S2; exact G
  have ht12 := G.top12
  have hol := G.len
  replace hol := hid hol
  replace G := hid G
  have HLen : Hid (Calls Try.prog 23 #[.pointer (some ⟨g, 0, none⟩)] v2 fun e w' => e = .returned (.int .i64 (ns.length : Int)) ∧ w' = v2) := by
    obtain ⟨cap', tw', h1, _⟩ := S2
    exact len_any g 1048576 (top ns) b ns.length cap' v2 h1.hd (by omega) hml2
  have HG := hid (gone_any base g b 1048576 ns ord v2 S2)
  replace S2 := hid S2
  clear c2 OT HM1 B1 hbs
  have hnn : ((ns.length : Int) != (ns.length : Int)) = false := bne_self_eq_false _
  go_wp2_with fail
  refine HLen.out.mono ?_
  rintro e v3 ⟨rfl, rfl⟩
  go_wp2_with fail
  refine HG.out.mono ?_
  rintro e V ⟨vn, vk, rfl, ON, OK, c4⟩
  obtain ⟨an, cn, hvn, _⟩ := ON.shape
  obtain ⟨ak, ck, hvk, hak⟩ := row_shape OK
  subst hvn hvk
  have S4 := S2.out.later c4
  have B4 := hid (B2.out.trans (c4.mono B2.out.size))
  have hL0 : lnk ns ord 0 = ord := by unfold lnk; rw [if_neg (by omega)]; exact G.out.chain0
  have HL0 := links_any base g b 1048576 ns ord 0 V S4
  rw [hL0] at HL0
  have hzl : (zi ord).length = ns.length := by rw [zi_len]; exact hol.out
  rw [hzl, hol.out]
  have ON2 : OwnZ V v3.heap.size (.slice an ns.length cn) (zi ord) := by rw [← hzl]; exact ON
  have OK2 : OwnK V v3.heap.size (.slice ak ns.length ck) ns ord := by rw [← hol.out]; exact OK
  replace ON2 := hid ON2
  replace OK2 := hid OK2
  replace HL0 := hid HL0
  replace S4 := hid S4
  replace hzl := hid hzl
  obtain ⟨v3s, hv3s⟩ : ∃ q, q = v3.heap.size := ⟨_, rfl⟩
  rw [← hv3s] at ON2 OK2
  clear c4 ON OK HG HLen hL0 hv3s B2 S2
  go_wp2_with fail
  refine HL0.out.mono ?_
  rintro e v5 ⟨x5, rfl, O5, c5⟩
  have HE := ints_eq _ _ _ _ _ v5 (ON2.out.later c5) O5 (by rw [hzl.out]; omega)
  replace HE := hid HE
  replace c5 := hid c5
  clear O5 HL0
  go_wp2_with fail
  refine HE.out.mono ?_
  rintro e v6 ⟨rfl, c6⟩
  have c46 := hid (c5.out.trans (c6.mono c5.out.size))
  clear c5 c6 HE
  go_wp2_with fail
  go_loopw [7] (fun iv wr => ∃ i : Nat, iv = .int .i64 (i : Int) ∧ 1 ≤ i ∧ i ≤ ns.length + 1 ∧ Hid (Below V.heap.size V wr)) (fun iv _ => ns.length + 1 - (intOf iv).toNat)
  case atStart => exact ⟨1, rfl, Nat.le_refl _, by omega, c46⟩
  case round =>
    obtain ⟨i, rfl, hi1, hi2, HB⟩ := hrel
    by_cases hlt : i < ns.length
    · obtain ⟨gk, rfl⟩ : ∃ gk, ak = some ⟨gk, 0, none⟩ := by
        rcases hak with rfl | h
        · rcases OK2.out.2 with ⟨_, h0⟩ | ⟨_, _, _, e, _⟩
          · rw [hol.out] at h0; omega
          · simp at e
        · exact h
      obtain ⟨x, hx⟩ : ∃ x, ord[i - 1]? = some x := ⟨_, List.getElem?_eq_getElem (by rw [hol.out]; omega)⟩
      obtain ⟨y, hy⟩ : ∃ y, ord[i]? = some y := ⟨_, List.getElem?_eq_getElem (by rw [hol.out]; omega)⟩
      have OKr := row_later OK2.out HB.out
      obtain ⟨p0, p1, p2⟩ := OwnK.cells OKr (i - 1) x hx
      obtain ⟨q0, q1, q2⟩ := OwnK.cells OKr i y hy
      have hlt2 : cmp (key ns x) (key ns y) < 0 := by
        have h1 := (List.getElem?_eq_some_iff.1 hx).2
        have h2 := (List.getElem?_eq_some_iff.1 hy).2
        have := List.pairwise_iff_getElem.1 G.out.rise (i - 1) i (by rw [hol.out]; omega) (by rw [hol.out]; omega) (by omega)
        rw [h1, h2] at this
        exact this
      have d0 := fun d os => cell_regrown p0 d os
      have d1 := fun d os => cell_regrown p1 d os
      have d2 := fun d os => cell_regrown p2 d os
      have d3 := fun d os => cell_regrown q0 d os
      have d4 := fun d os => cell_regrown q1 d os
      have d5 := fun d os => cell_regrown q2 d os
      have HCm : Hid (∀ W, Calls Try.prog 36 #[.agg #[.string (nd ns x).k, .int .u64 (nd ns x).s, .int .i64 (nd ns x).c], .agg #[.string (nd ns y).k, .int .u64 (nd ns y).s, .int .i64 (nd ns y).c]] W fun e w' => e = .returned (.int .i64 (cmp (key ns x) (key ns y))) ∧ Below W.heap.size W w') := fun W => compare_below _ _ _ _ _ _ W
      generalize cmp (key ns x) (key ns y) = C at *
      generalize (nd ns x).k = xk at *
      generalize (nd ns x).s = xs at *
      generalize (nd ns x).c = xc at *
      generalize (nd ns y).k = yk at *
      generalize (nd ns y).s = ys at *
      generalize (nd ns y).c = yc at *
      have i1 : (i : Int) < (ns.length : Int) := by omega
      have i3 : (i : Int) - 1 < (ns.length : Int) := by omega
      have i4 : ((i : Int) - 1).toNat = i - 1 := by omega
      have i5 : ¬ 0 ≤ C := by omega
      have i6 : 0 ≤ (i : Int) - 1 := by omega
      clear p0 p1 p2 q0 q1 q2 OKr hx hy
      go_wp2_with fail
      refine wp_region_quiet_below (by kernel_rfl) (by kernel_rfl) ?_
      repeat (first | go_big_quiet_step (first | (go_at_call 36; exact Calls.regrown_of (HCm.out _))) | quiet_step (first | (go_at_call 36; exact Calls.regrown_of (HCm.out _))))
      refine wpQuiet_nil ?_
      intro w8 hw8
      have b8 : Below wr.heap.size wr w8 := by
        obtain ⟨⟨dq, osq⟩, hw''⟩ := hw8
        rw [hw'']
        exact below_regrown _ dq osq
      have HB8 := hid (HB.out.trans (b8.mono HB.out.size))
      clear d0 d1 d2 d3 d4 d5 HCm hw8 b8
      go_wp2_with fail
      refine ⟨⟨i + 1, by simp, by omega, by omega, HB8⟩, ?_⟩
      simp only [intOf]; omega
    · have i1 : ¬ (i : Int) < (ns.length : Int) := by omega
      obtain ⟨m, hm⟩ : ∃ m, m = top ns := ⟨_, rfl⟩
      have HHei : Hid (∀ W, Below V.heap.size V W → Calls Try.prog 24 #[.pointer (some ⟨g, 0, none⟩)] W fun e w' => e = .returned (.int .i64 (m : Int)) ∧ w' = W) := fun W hW => by
        obtain ⟨cap', tw', h1, _⟩ := S4.out.later hW
        rw [hm]; exact height_any g 1048576 (top ns) b _ cap' W h1.hd (by omega)
      have HLk : Hid (∀ W, Below V.heap.size V W → ∀ l : Int, Calls Try.prog 31 #[.pointer (some ⟨g, 0, none⟩), .int .i64 l] W fun e w' => ∃ v, e = .returned v ∧ OwnZ w' W.heap.size v (zi (lnk ns ord l)) ∧ Below W.heap.size W w') := fun W hW l => links_any base g b 1048576 ns ord l W (S4.out.later hW)
      have hlv : Hid (∀ l : Nat, lnk ns ord (l : Int) = chain ns ord l) := fun l => by unfold lnk; rw [if_neg (by omega)]; simp
      rw [← hm] at ht12
      replace hm := hid hm
      go_wp2_with fail
      go_loopw [8] (fun lv wq => ∃ l : Nat, lv = .int .i64 (l : Int) ∧ l ≤ m ∧ Hid (Below V.heap.size V wq)) (fun lv _ => m - (intOf lv).toNat)
      case atStart => exact ⟨0, rfl, Nat.zero_le _, HB⟩
      case round =>
        obtain ⟨l, rfl, hl, HQ⟩ := hrel
        have HH1 := hid (HHei.out wr HQ.out)
        by_cases hlm : l < m
        · have i2 : (l : Int) < (m : Int) := by omega
          have HA1 := hid (HLk.out wr HQ.out ((l : Int) + 1))
          go_wp2_with fail
          refine HH1.out.mono ?_
          rintro e w1 ⟨rfl, rfl⟩
          go_wp2_with fail
          refine HA1.out.mono ?_
          rintro e w2 ⟨x2, rfl, O2, c2⟩
          have HQ2 := hid (HQ.out.trans (c2.mono HQ.out.size))
          have HA2 := HLk.out w2 HQ2.out (l : Int)
          rw [hlv.out l] at HA2
          replace HA2 := hid HA2
          replace O2 := hid O2
          clear c2 HH1 HA1
          go_wp2_with fail
          refine HA2.out.mono ?_
          rintro e w3 ⟨x3, rfl, O3, c3⟩
          have HQ3 := hid (HQ2.out.trans (c3.mono HQ2.out.size))
          have hcl : (zi (chain ns ord l)).length ≤ 1000000000 := by
            rw [zi_len]
            have h1 : (chain ns ord l).length ≤ ord.length := List.length_filter_le _ _
            rw [hol.out] at h1; omega
          have HSu := hid (subset_yes _ _ _ _ _ _ w3 (O2.out.later c3) O3 (chain_sublist ns ord l) hcl)
          clear c3 O3 O2 HA2 HQ2
          go_wp2_with fail
          refine HSu.out.mono ?_
          rintro e w4 ⟨rfl, c4⟩
          have HQ4 := hid (HQ3.out.trans (c4.mono HQ3.out.size))
          have HA4 := HLk.out w4 HQ4.out (l : Int)
          rw [hlv.out l] at HA4
          replace HA4 := hid HA4
          clear c4 HSu HQ3
          go_wp2_with fail
          refine HA4.out.mono ?_
          rintro e w5 ⟨x5, rfl, O5, c5⟩
          obtain ⟨a5, c5', hx5, _⟩ := O5.shape
          subst hx5
          have HQ5 := hid (HQ4.out.trans (c5.mono HQ4.out.size))
          have hne : (zi (chain ns ord l)).length ≠ 0 := by
            rw [zi_len]
            intro h0
            exact chain_some G.out l (by rw [← hm.out]; exact hlm) (List.eq_nil_of_length_eq_zero h0)
          clear c5 O5 HA4 HQ4 hcl
          generalize (zi (chain ns ord l)).length = N5 at *
          have hne2 : ((N5 : Int) == 0) = false := by simp; omega
          go_wp2_with fail
          refine ⟨⟨l + 1, by simp, by omega, HQ5⟩, ?_⟩
          simp only [intOf]; omega
        · have el : l = m := by omega
          have i2 : ¬ (l : Int) < (m : Int) := by omega
          subst el
          have hT : lnk ns ord (l : Int) = [] := by rw [hlv.out l]; exact G.out.over l (by rw [← hm.out]; exact Nat.le_refl _)
          have hN : lnk ns ord (-1) = [] := by unfold lnk; simp
          have hz0 : l = 0 ↔ ns.length = 0 := by rw [hm.out]; exact top_zero G.out
          go_wp2_with fail
          refine HH1.out.mono ?_
          rintro e w1 ⟨rfl, rfl⟩
          go_wp2_with fail
          refine HH1.out.mono ?_
          rintro e w1 ⟨rfl, rfl⟩
          have HA1 := HLk.out w1 HQ.out (l : Int)
          rw [hT] at HA1
          replace HA1 := hid HA1
          go_wp2_with fail
          refine HA1.out.mono ?_
          rintro e w2 ⟨x2, rfl, O2, c2⟩
          obtain ⟨a2, c2', hx2, _⟩ := O2.shape
          subst hx2
          have HQ2 := hid (HQ.out.trans (c2.mono HQ.out.size))
          have HA2 := HLk.out w2 HQ2.out (-1)
          rw [hN] at HA2
          replace HA2 := hid HA2
          clear c2 O2 HA1
          have ez : (zi []).length = 0 := rfl
          rw [ez]
          go_wp2_with fail
          refine HA2.out.mono ?_
          rintro e w3 ⟨x3, rfl, O3, c3⟩
          obtain ⟨a3, c3', hx3, _⟩ := O3.shape
          subst hx3
          have HQ3 := hid (HQ2.out.trans (c3.mono HQ2.out.size))
          have HH3 := hid (HHei.out w3 HQ3.out)
          clear c3 O3 HA2
          rw [ez]
          go_wp2_with fail
          refine HH3.out.mono ?_
          rintro e w4 ⟨rfl, rfl⟩
          have BF : Hid (Below w.heap.size w w4) := B4.out.trans (HQ3.out.mono B4.out.size)
          have hfin : (((l : Int) == 0) == ((ns.length : Int) == 0)) = true := by
            by_cases h0 : l = 0
            · have h1 := hz0.1 h0
              rw [h0, h1]; rfl
            · have h1 : ns.length ≠ 0 := fun h => h0 (hz0.2 h)
              rw [show ((l : Int) == 0) = false by rw [beq_eq_false_iff_ne]; omega, show ((ns.length : Int) == 0) = false by rw [beq_eq_false_iff_ne]; omega]; rfl
          go_wp2_with fail
          go_ret
          first
            | exact ⟨rfl, BF.out⟩
            | exact ⟨by rw [hfin], BF.out⟩
            | exact ⟨by simp [hfin], BF.out⟩
end Go.Proofs.Ythnmoidfdojoiaa.Sr
