/- Same, decided. -/
import Derived.Test.YtgffojafdjcdoaaSm
namespace Go.Proofs.Ytgffojafdjcdoaa.Sn
open Go.ChangeShapes Go.WideShapes Go.ChangeAt Go.RowKit
open Go.Sort
open Go.Proofs.Ytgffojafdjcdoaa.By
open Go.Proofs.Ytgffojafdjcdoaa.Ln
open Go.Proofs.Ytgffojafdjcdoaa.Mp
open Go.Proofs.Ytgffojafdjcdoaa.Dk
open Go.Proofs.Ytgffojafdjcdoaa.Df
open Go.Proofs.Ytgffojafdjcdoaa.Dg
open Go.Proofs.Ytgffojafdjcdoaa.Dh
open Go.Proofs.Ytgffojafdjcdoaa.Us
open Go.Proofs.Ytgffojafdjcdoaa.Lt
open Go.Proofs.Ytgffojafdjcdoaa.Cr
open Go.Proofs.Ytgffojafdjcdoaa.Cs (seek_name)
open Go.Proofs.Ytgffojafdjcdoaa.Sm
set_option linter.unusedVariables false
set_option linter.unusedSimpArgs false

theorem str_data (zs : List Int) : (str zs).data.toList = zs.map (fun n => UInt8.ofNat n.toNat) := by
  have h : ∀ (zs : List Int) (r : ByteArray), (zs.foldl (fun r n => r.push (UInt8.ofNat n.toNat)) r).data.toList = r.data.toList ++ zs.map (fun n => UInt8.ofNat n.toNat) := by
    intro zs
    induction zs with
    | nil => intro r; simp
    | cons z t ih => intro r; simp only [List.foldl_cons, ih, List.map_cons]; simp [ByteArray.push]
  simpa [str] using h zs ByteArray.empty
theorem bytes_inj : ∀ {xs ys : List Int}, (∀ y ∈ xs, 0 ≤ y ∧ y ≤ 255) → (∀ y ∈ ys, 0 ≤ y ∧ y ≤ 255) → xs.map (fun n => UInt8.ofNat n.toNat) = ys.map (fun n => UInt8.ofNat n.toNat) → xs = ys
  | [], [], _, _, _ => rfl
  | [], y :: t, _, _, h => by simp at h
  | x :: r, [], _, _, h => by simp at h
  | x :: r, y :: t, hx, hy, h => by
    simp only [List.map_cons, List.cons.injEq] at h
    have h1 := hx x (by simp)
    have h2 := hy y (by simp)
    have h3 := congrArg UInt8.toNat h.1
    simp only [UInt8.toNat_ofNat'] at h3
    rw [Nat.mod_eq_of_lt (by omega), Nat.mod_eq_of_lt (by omega)] at h3
    have h4 := bytes_inj (fun z hz => hx z (List.mem_cons_of_mem _ hz)) (fun z hz => hy z (List.mem_cons_of_mem _ hz)) h.2
    rw [h4, show x = y by omega]
theorem str_inj {xs ys : List Int} (hx : ∀ y ∈ xs, 0 ≤ y ∧ y ≤ 255) (hy : ∀ y ∈ ys, 0 ≤ y ∧ y ≤ 255) (h : str xs = str ys) : xs = ys := by
  have h := congrArg (fun b : ByteArray => b.data.toList) h
  simp only [str_data] at h
  exact bytes_inj hx hy h
set_option maxRecDepth 10000 in
theorem equal_no {w : World} {a1 a2 : Option Addr} {l1 c1 l2 c2 : Nat} {z1 z2 : List Int} (H1 : Bytes w a1 l1 c1 z1) (H2 : Bytes w a2 l2 c2 z2) (hz : z1 ≠ z2) : Calls Try.prog 60 #[.slice a1 l1 c1, .slice a2 l2 c2] w fun e w' => e = .returned (.bool false) ∧ Below w.heap.size w w' := by
  have h1 := Bytes.conv H1
  have h2 := Bytes.conv H2
  have hne : str z1 ≠ str z2 := fun h => hz (str_inj H1.2.2.2.1 H2.2.2.2.1 h)
  clear H1 H2 hz
  generalize str z1 = s1 at *
  generalize str z2 = s2 at *
  have hd1 : (s1.toList == s2.toList) = false := by
    rw [beq_eq_false_iff_ne]
    intro e
    rw [ByteArray.toList_eq, ByteArray.toList_eq] at e
    exact hne (ByteArray.ext (Array.toList_inj.1 e))
  go_enter Try.func60, Try.ntmps60
  go_wp2_with fail
  go_ret
  refine ⟨?_, Below.refl _ _⟩
  first
  | rfl
  | (show Ending.returned (.bool (s1.toList == s2.toList)) = _; rw [hd1])
set_option maxRecDepth 10000 in
theorem file_no {w : World} {a1 a2 : Option Addr} {l1 c1 l2 c2 k k2 : Nat} {z1 z2 : List Int} (H1 : Bytes w a1 l1 c1 z1) (H2 : Bytes w a2 l2 c2 z2) (hd : ¬ (z2 = z1 ∧ k2 = k)) : Calls Try.prog 50 #[.agg #[.slice a1 l1 c1, .int .i64 k], .agg #[.slice a2 l2 c2, .int .i64 k2]] w fun e w' => e = .returned (.bool false) ∧ Below w.heap.size w w' := by
  obtain ⟨W1, hW1⟩ : ∃ W1, W1 = w.alloc (.cells #[.slice a1 l1 c1, .int .i64 k] 83) := ⟨_, rfl⟩
  obtain ⟨W2, hW2⟩ : ∃ W2, W2 = W1.alloc (.cells #[.slice a2 l2 c2, .int .i64 k2] 83) := ⟨_, rfl⟩
  have b1 : Below w.heap.size w W1 := by rw [hW1]; exact box_below _ _
  have b2 : Below w.heap.size w W2 := by rw [hW2]; exact b1.trans ((box_below _ _).mono b1.size)
  by_cases hk : k2 = k
  · have HE := hid (equal_no (bytes_kept H1 b2) (bytes_kept H2 b2) (fun h => hd ⟨h.symm, hk⟩))
    have B2 := hid b2
    subst hk
    clear b1 b2 H1 H2
    rw [hW2, hW1] at HE B2
    clear hW2 hW1 hd
    go_enter Try.func50, Try.ntmps50
    go_wp2_with fail
    refine HE.out.mono ?_
    rintro e w3 ⟨rfl, b3⟩
    have B3 := hid (B2.out.trans (b3.mono B2.out.size))
    clear b3 B2 HE
    go_wp2_with fail
    go_ret
    exact ⟨rfl, B3.out⟩
  · have B2 := hid b2
    have hk1 : ¬ (k : Int) = (k2 : Int) := by omega
    clear b1 b2 H1 H2
    rw [hW2, hW1] at B2
    clear hW2 hW1 hd
    go_enter Try.func50, Try.ntmps50
    go_wp2_with fail
    go_ret
    exact ⟨rfl, B2.out⟩
/-- Each file of fs is in fs2, with the same bytes. -/
def Sub (fs2 fs : Fs) : Prop := ∀ s f, seek fs s = some f → ∃ sl, seek fs2 s = some ⟨sl, f.zs, f.k⟩
set_option maxRecDepth 100000 in
set_option maxHeartbeats 2000000 in
theorem equalfunc_no {base g b base2 g2 b2 : Nat} {P P2 : Nat → Prop} {S S2 : St} (w : World) (H : Disk w base g b P S) (H2 : Disk w base2 g2 b2 P2 S2) (hno : S2.fs.length = S.fs.length → ¬ Sub S2.fs S.fs) : Calls Try.prog 49 #[.map (some b), .map (some b2), .func (.func 50) #[] #[]] w fun e w' => e = .returned (.bool false) ∧ Below w.heap.size w w' := by
  obtain ⟨D, hown, hR⟩ := H.map
  rcases Decidable.em (¬ S2.fs.length = S.fs.length) with hN | hN
  · have hL1 := H.run_len 3
    have hL2 := H2.run_len 3
    have hN2 : ¬ (S.fs.length : Int) = (S2.fs.length : Int) := by omega
    clear H H2 hno hown hR
    go_enter Try.func49, Try.ntmps49
    go_wp2_with fail
    go_ret
    exact ⟨rfl, Below.refl _ _⟩
  replace hN := Decidable.not_not.1 hN
  replace hno := hid (hno hN)
  have hL1 := H.run_len 3
  have hL2 := H2.run_len 3
  rw [hN] at hL2
  have HH := hid H
  have HH2 := hid H2
  have hlen := H.ok.len
  have hsz := hR.size
  clear H H2 hN
  go_enter Try.func49, Try.ntmps49
  go_wp2_with (at_range; refine wpList_range_own _ rfl _ 46 rfl 9 83 law Try.underlying46 _ b _ _ rfl hown ?_; intro w0 hrg0 hg0 hs0)
  go_frame
  go_loopw [7] (fun u wr => ∃ (left : Lit → Bool) (cnt : Nat) (ss : List K), wr.ranges Try.prog 9 heldR b w.heap.size S.fs.length D left cnt ∧ ss.length + cnt ≤ Maps.size D ∧ Collected D left ss ∧ Hid (∀ s ∈ ss, ∀ f, seek S.fs s = some f → ∃ sl, seek S2.fs s = some ⟨sl, f.zs, f.k⟩) ∧ Below w.heap.size w wr) (fun _ wr => wr.rangeLeft b w.heap.size)
  case atStart => exact ⟨_, _, [], hrg0, by simp, Collected.start D, (fun s hs => by simp at hs), (Below.refl _ _).grown hg0 (Nat.le_refl _) (fun j hj => by cases hj)⟩
  case round =>
    obtain ⟨left, cnt, ss, hrg, hcs, hC, hmt, hnx⟩ := hrel
    rcases hrg.next law 0 with ⟨h0, hl0, hrun⟩ | ⟨key, v, kl, y, w2, cnt2, hkey, hlk, hv, hat, hrun, hrg2, hlt, hg2, hs2, hen⟩
    · exfalso
      have hp := (hC.perm hown law Try.underlying9 hl0).trans hR.keys
      exact hno.out (fun s f hf => hmt.out s (hp.mem_iff.2 (Pw.mem_names.2 (by rw [hf]; rfl))) f hf)
    · obtain ⟨x, rfl, rfl, _⟩ := Maps.keyOf_str Try.underlying9 hkey
      obtain ⟨f, hl, hy⟩ := hR.met hat
      have hvf : v = f.val := by
        have : (DataW.held v, ([] : List MemPlace)) = y := Option.some.inj hv
        rw [← this] at hy
        simpa using hy
      have hmem := seek_mem hl
      have hb64 : 1 ≤ x.length ∧ x.length ≤ 64 := HH.out.ok.name _ hmem
      obtain ⟨a, c, hsl, HBf⟩ := Cl.own_bytes (HH.out.mem.row _ hmem) (HH.out.mem.bytes _ hmem)
      simp only at hsl HBf
      have hval : f.val = .agg #[.slice a f.zs.length c, .int .i64 f.k] := by rw [← hsl]; rfl
      rw [hvf, hval] at hrun hen
      obtain ⟨W3, hW3⟩ : ∃ W3, W3 = w2.alloc (.cells #[.slice a f.zs.length c, .int .i64 f.k] 83) := ⟨_, rfl⟩
      have hb3 : Below w.heap.size w W3 := by rw [hW3]; exact (hnx.grown hg2 hnx.size (fun j hj => by cases hj; exact Nat.le_refl _)).alloc (by have := hnx.size; have := hg2.size; omega) _
      have hLk := (HH2.out.later hb3).run_look ⟨x.toArray⟩ (by show x.toArray.size ≤ _; simpa using hb64.2) true
      have hd : (⟨x.toArray⟩ : ByteArray).data.toList = x := by simp
      cases hl2 : seek S2.fs x with
      | none =>
        rw [hd, hl2] at hLk
        have hLk : (Instr.lookup 46 (.map (some b2)) (Go.Proofs.encStr x) true).run Try.prog W3 = .ok (.tuple #[.agg #[.slice none 0 0, .int .i64 0], .bool false]) W3 := hLk
        have B4 : Hid (Below w.heap.size w (W3.alloc (.cells #[.slice none 0 0, .int .i64 0] 83))) := hb3.alloc hb3.size _
        rw [hW3] at B4 hLk
        clear hb3
        clear hW3
        generalize f.zs.length = n at *
        generalize f.k = kk at *
        clear hrg hrg2 hC hat hv hy hvf hval hsl hl hl2 hkey hlk hs2 hg2 hnx hlt hmem HBf hb64 hd
        go_wp2_with fail
        go_ret
        exact ⟨rfl, B4.out⟩
      | some f2 =>
        obtain ⟨sl2, z2, k2⟩ := f2
        have hmem2 := seek_mem hl2
        obtain ⟨a2, c2, hsl2, HBf2⟩ := Cl.own_bytes (HH2.out.mem.row _ hmem2) (HH2.out.mem.bytes _ hmem2)
        simp only at hsl2 HBf2
        subst hsl2
        rw [hd, hl2] at hLk
        have hLk : (Instr.lookup 46 (.map (some b2)) (Go.Proofs.encStr x) true).run Try.prog W3 = .ok (.tuple #[.agg #[.slice a2 z2.length c2, .int .i64 k2], .bool true]) W3 := hLk
        obtain ⟨W4, hW4⟩ : ∃ W4, W4 = W3.alloc (.cells #[.slice a2 z2.length c2, .int .i64 k2] 83) := ⟨_, rfl⟩
        have hb4 : Below w.heap.size w W4 := by rw [hW4]; exact hb3.alloc hb3.size _
        have B4 := hid hb4
        by_cases hsame : z2 = f.zs ∧ k2 = f.k
        · have hmt2 : Hid (∀ s ∈ ss ++ [x], ∀ f, seek S.fs s = some f → ∃ sl, seek S2.fs s = some ⟨sl, f.zs, f.k⟩) := fun s hs f' hf' => by
            rcases List.mem_append.1 hs with h | h
            · exact hmt.out s h f' hf'
            · simp at h
              subst h
              rw [hl] at hf'
              cases hf'
              exact ⟨_, by rw [hl2, hsame.1, hsame.2]⟩
          obtain ⟨rfl, rfl⟩ := hsame
          have HFS := hid (file_same (k := f.k) (bytes_kept HBf hb4) (bytes_kept HBf2 hb4))
          have hC2 := hid (hC.step hlk hat)
          have hrg3 := hid ((hrg2.alloc (.cells #[.slice a f.zs.length c, .int .i64 f.k] 83)).alloc (.cells #[.slice a2 f.zs.length c2, .int .i64 f.k] 83))
          have hcs3 : Hid ((ss ++ [x]).length + cnt2 ≤ Maps.size D) := by show _ ≤ _; simp; omega
          have hleft := hid hrg.left_eq
          have hltt := hid hlt
          rw [hW4] at HFS B4
          rw [hW3] at HFS B4 hLk
          clear hb3 hb4
          clear hW4
          clear hW3
          generalize f.zs.length = n at *
          generalize f.k = kk at *
          clear hrg hrg2 hC hat hv hy hvf hval hsl hl hl2 hkey hlk hs2 hg2 hnx hlt hmem hmem2 HBf HBf2 hb64 hd
          go_wp2_with fail
          refine HFS.out.mono ?_
          rintro e w5 ⟨rfl, b5⟩
          have hrg5 := hid (hrg3.out.kept (row := none) ⟨b5.os, b5.tape, b5.output, b5.size, fun j hj _ => b5.block j hj⟩ (by simp) (by simp))
          have B5 := hid (B4.out.trans (b5.mono B4.out.size))
          clear b5 HFS B4 hrg3
          go_wp2_with fail
          go_roundw
          case rel => exact ⟨_, cnt2, ss ++ [x], hrg5.out, hcs3.out, hC2.out, hmt2, B5.out⟩
          case measure => rw [hrg5.out.left_eq, hleft.out]; exact hltt.out
        · have HFS := hid (file_no (k := f.k) (k2 := k2) (bytes_kept HBf hb4) (bytes_kept HBf2 hb4) hsame)
          rw [hW4] at HFS B4
          rw [hW3] at HFS B4 hLk
          clear hb3 hb4
          clear hW4
          clear hW3
          generalize f.zs.length = n at *
          generalize f.k = kk at *
          generalize z2.length = n2 at *
          clear hrg hrg2 hC hat hv hy hvf hval hsl hl hl2 hkey hlk hs2 hg2 hnx hlt hmem hmem2 HBf HBf2 hb64 hd hsame
          go_wp2_with fail
          refine HFS.out.mono ?_
          rintro e w5 ⟨rfl, b5⟩
          have B5 := hid (B4.out.trans (b5.mono B4.out.size))
          clear b5 HFS B4
          go_wp2_with fail
          go_ret
          exact ⟨rfl, B5.out⟩
set_option maxRecDepth 100000 in
set_option maxHeartbeats 2000000 in
theorem same_no {base g b base2 g2 b2 : Nat} {P P2 : Nat → Prop} {S S2 : St} (w : World) (H : Disk w base g b P S) (H2 : Disk w base2 g2 b2 P2 S2) (hno : S2.fs.length = S.fs.length → ¬ Sub S2.fs S.fs) : Calls Try.prog 16 #[.pointer (some ⟨g, 0, none⟩), .pointer (some ⟨g2, 0, none⟩)] w fun e w' => e = .returned (.bool false) ∧ Below w.heap.size w w' := by
  have HI1 := hid (isnone_any w H)
  have HI2 := hid (isnone_any w H2)
  have HQ1 : Hid (∀ W, Below w.heap.size w W → W.cell? ⟨g, 0, none⟩ = some (.map (some b))) := fun W hW => (H.later hW).cell 0
  have HQ2 : Hid (∀ W, Below w.heap.size w W → W.cell? ⟨g2, 0, none⟩ = some (.map (some b2))) := fun W hW => (H2.later hW).cell 0
  have HE := hid (fun W (h : Below w.heap.size w W) => equalfunc_no W (H.later h) (H2.later h) hno)
  clear H H2 hno
  go_enter Try.func16, Try.ntmps16
  go_wp2_with fail
  refine HI1.out.mono ?_
  rintro e w ⟨rfl, rfl⟩
  go_wp2_with fail
  refine HI2.out.mono ?_
  rintro e w ⟨rfl, rfl⟩
  go_wp2_with fail
  refine wp_region_held_drew (S := fun W => Below w.heap.size w W) (by kernel_rfl) ((Below.refl _ _).drew) (fun hS => ?_)
  generalize World.drew w = D at *
  refine wpAnyH_take (i := 0) (v := ?v1) rfl (by kernel_rfl) (by kernel_rfl) (by kernel_rfl) (fun _ _ _ h => h) (Or.inl ⟨by rfl, ?h1⟩) hS ?_
  case h1 => (intro W hW; go_simp; try (with_reducible rfl))
  go_simp
  refine wpAnyH_take (i := 1) (v := ?v2) rfl (by kernel_rfl) (by kernel_rfl) (by kernel_rfl) (fun _ _ _ h => h) (Or.inl ⟨by rfl, ?h2⟩) hS ?_
  case h2 => (intro W hW; go_simp; try (with_reducible rfl))
  go_simp
  refine wpAnyH_take (i := 2) (v := ?v3) rfl (by kernel_rfl) (by kernel_rfl) (by kernel_rfl) (fun _ _ _ h => h) (Or.inl ⟨by rfl, ?h3⟩) hS ?_
  case h3 => (intro W hW; go_simp; try (with_reducible rfl))
  go_simp
  refine wpAnyH_take (i := 3) (v := ?v4) rfl (by kernel_rfl) (by kernel_rfl) (by kernel_rfl) (fun _ _ _ h => h) (Or.inl ⟨by rfl, ?h4⟩) hS ?_
  case h4 => (intro W hW; have q1 := HQ1.out W hW; go_simp; try (with_reducible rfl))
  go_simp
  refine wpAnyH_take (i := 4) (v := ?v5) rfl (by kernel_rfl) (by kernel_rfl) (by kernel_rfl) (fun _ _ _ h => h) (Or.inl ⟨by rfl, ?h5⟩) hS ?_
  case h5 => (intro W hW; go_simp; try (with_reducible rfl))
  go_simp
  refine wpAnyH_take (i := 5) (v := ?v6) rfl (by kernel_rfl) (by kernel_rfl) (by kernel_rfl) (fun _ _ _ h => h) (Or.inl ⟨by rfl, ?h6⟩) hS ?_
  case h6 => (intro W hW; go_simp; try (with_reducible rfl))
  go_simp
  refine wpAnyH_take (i := 6) (v := ?v7) rfl (by kernel_rfl) (by kernel_rfl) (by kernel_rfl) (fun _ _ _ h => h) (Or.inl ⟨by rfl, ?h7⟩) hS ?_
  case h7 => (intro W hW; go_simp; try (with_reducible rfl))
  go_simp
  refine wpAnyH_take (i := 7) (v := ?v8) rfl (by kernel_rfl) (by kernel_rfl) (by kernel_rfl) (fun _ _ _ h => h) (Or.inl ⟨by rfl, ?h8⟩) hS ?_
  case h8 => (intro W hW; have q2 := HQ2.out W hW; go_simp; try (with_reducible rfl))
  go_simp
  refine wpAnyH_ready (rs := [8]) (by kernel_rfl) (by simp) ?_
  refine AllReadyH.cons rfl (fun K hK => ?_) ?_
  · go_simp
    go_wp2_with fail
    refine (HE.out _ hS).mono ?_
    rintro e y8 ⟨rfl, c8⟩
    refine hK.out _ _ (hS.trans (c8.mono hS.size)) (fun hS => ?_)
    clear hK K c8
    refine wpAnyH_take (i := 9) (v := ?v9) rfl (by kernel_rfl) (by kernel_rfl) (by kernel_rfl) (fun _ _ _ h => h) (Or.inl ⟨by rfl, ?h9⟩) hS ?_
    case h9 => (intro W hW; go_simp; try (with_reducible rfl))
    go_simp
    refine wpAnyH_done (by kernel_rfl) ?_ _
    go_wp2_with fail
    go_ret
    exact ⟨rfl, hS⟩
  exact AllReadyH.nil
theorem sub_all : ∀ {l m : List K}, l.Nodup → (∀ x ∈ l, x ∈ m) → m.length ≤ l.length → ∀ x ∈ m, x ∈ l
  | [], m, _, _, h, x, hx => by
    have : m = [] := List.eq_nil_of_length_eq_zero (by simpa using h)
    rw [this] at hx; simp at hx
  | a :: t, m, hn, hs, h, x, hx => by
    by_cases e : x = a
    · rw [e]; simp
    · have ha : a ∈ m := hs a (by simp)
      have hl := List.length_erase_of_mem ha
      refine List.mem_cons_of_mem _ (sub_all (List.nodup_cons.1 hn).2 (fun y hy => ?_) (m := m.erase a) (by simp at h; omega) x ((List.mem_erase_of_ne e).2 hx))
      exact (List.mem_erase_of_ne (show y ≠ a from fun e2 => (List.nodup_cons.1 hn).1 (by rw [← e2]; exact hy))).2 (hs y (by simp [hy]))
theorem alike_of {fs2 fs : Fs} (h2 : (names fs2).Nodup) (h1 : (names fs).Nodup) (hl : fs2.length = fs.length) (h : Sub fs2 fs) : Go.Proofs.Ytgffojafdjcdoaa.Pw.Alike fs2 fs := by
  refine ⟨h2, fun s => ?_, h⟩
  have hsub : ∀ x ∈ names fs, x ∈ names fs2 := fun x hx => by
    obtain ⟨f, hf⟩ := seek_name hx
    obtain ⟨sl, e⟩ := h x f hf
    exact Pw.mem_names.2 (by rw [e]; rfl)
  have hsup := sub_all h1 hsub (by simp [names]; omega)
  rw [Bool.eq_iff_iff, ← Pw.mem_names, ← Pw.mem_names]
  exact ⟨hsup s, hsub s⟩
/-- Same, decided. -/
theorem same_any {base g b base2 g2 b2 : Nat} {P P2 : Nat → Prop} {S S2 : St} (w : World) (H : Disk w base g b P S) (H2 : Disk w base2 g2 b2 P2 S2) : Calls Try.prog 16 #[.pointer (some ⟨g, 0, none⟩), .pointer (some ⟨g2, 0, none⟩)] w fun e w' => ∃ c : Bool, e = .returned (.bool c) ∧ (c = true ↔ Go.Proofs.Ytgffojafdjcdoaa.Pw.Alike S2.fs S.fs) ∧ Below w.heap.size w w' := by
  by_cases h : Go.Proofs.Ytgffojafdjcdoaa.Pw.Alike S2.fs S.fs
  · exact (same_yes w H H2 h).mono fun e w' ⟨he, hb⟩ => ⟨true, he, by simp [h], hb⟩
  · exact (same_no w H H2 (fun hl hs => h (alike_of (Dh.nodup H2) (Dh.nodup H) hl hs))).mono fun e w' ⟨he, hb⟩ => ⟨false, he, by simp [h], hb⟩
end Go.Proofs.Ytgffojafdjcdoaa.Sn
