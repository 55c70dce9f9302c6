/- Same at disks that are alike. -/
import Derived.Test.YtgffojafdjcdoaaDe
import Derived.Test.YtgffojafdjcdoaaCl
import Derived.Deep.RegionHeld
namespace Go.Proofs.Ytgffojafdjcdoaa.Sm
open Go.ChangeShapes Go.WideShapes Go.ChangeAt Go.RowKit
open Go.Sort
open Go.Proofs.Ytgffojafdjcdoaa.By
open Go.Proofs.Ytgffojafdjcdoaa.Ln
open Go.Proofs.Ytgffojafdjcdoaa.Mp
open Go.Proofs.Ytgffojafdjcdoaa.Dk
open Go.Proofs.Ytgffojafdjcdoaa.Df
open Go.Proofs.Ytgffojafdjcdoaa.Dg
open Go.Proofs.Ytgffojafdjcdoaa.Dh
open Go.Proofs.Ytgffojafdjcdoaa.Us
set_option linter.unusedVariables false
set_option linter.unusedSimpArgs false

set_option maxRecDepth 10000 in
theorem equal_same {w : World} {a1 a2 : Option Addr} {l1 c1 l2 c2 : Nat} {zs : List Int} (H1 : Bytes w a1 l1 c1 zs) (H2 : Bytes w a2 l2 c2 zs) : Calls Try.prog 60 #[.slice a1 l1 c1, .slice a2 l2 c2] w fun e w' => e = .returned (.bool true) ∧ Below w.heap.size w w' := by
  have h1 := Bytes.conv H1
  have h2 := Bytes.conv H2
  clear H1 H2
  go_enter Try.func60, Try.ntmps60
  go_wp2_with fail
  go_ret
  exact ⟨by simp, Below.refl _ _⟩
set_option maxRecDepth 10000 in
theorem file_same {w : World} {a1 a2 : Option Addr} {l1 c1 l2 c2 k : Nat} {zs : List Int} (H1 : Bytes w a1 l1 c1 zs) (H2 : Bytes w a2 l2 c2 zs) : Calls Try.prog 50 #[.agg #[.slice a1 l1 c1, .int .i64 k], .agg #[.slice a2 l2 c2, .int .i64 k]] w fun e w' => e = .returned (.bool true) ∧ Below w.heap.size w w' := by
  obtain ⟨W1, hW1⟩ : ∃ W1, W1 = w.alloc (.cells #[.slice a1 l1 c1, .int .i64 k] 83) := ⟨_, rfl⟩
  obtain ⟨W2, hW2⟩ : ∃ W2, W2 = W1.alloc (.cells #[.slice a2 l2 c2, .int .i64 k] 83) := ⟨_, rfl⟩
  have b1 : Below w.heap.size w W1 := by rw [hW1]; exact box_below _ _
  have b2 : Below w.heap.size w W2 := by rw [hW2]; exact b1.trans ((box_below _ _).mono b1.size)
  have HE := hid (equal_same (bytes_kept H1 b2) (bytes_kept H2 b2))
  have B2 := hid b2
  clear b1 b2 H1 H2
  rw [hW2, hW1] at HE B2
  clear hW2 hW1 
  go_enter Try.func50, Try.ntmps50
  go_wp2_with fail
  refine HE.out.mono ?_
  rintro e w3 ⟨rfl, b3⟩
  have B3 := hid (B2.out.trans (b3.mono B2.out.size))
  clear b3 B2 HE
  go_wp2_with fail
  go_ret
  exact ⟨rfl, B3.out⟩
set_option maxRecDepth 100000 in
set_option maxHeartbeats 2000000 in
theorem equalfunc_yes {base g b base2 g2 b2 : Nat} {P P2 : Nat → Prop} {S S2 : St} (w : World) (H : Disk w base g b P S) (H2 : Disk w base2 g2 b2 P2 S2) (Al : Go.Proofs.Ytgffojafdjcdoaa.Pw.Alike S2.fs S.fs) : Calls Try.prog 49 #[.map (some b), .map (some b2), .func (.func 50) #[] #[]] w fun e w' => e = .returned (.bool true) ∧ Below w.heap.size w w' := by
  obtain ⟨D, hown, hR⟩ := H.map
  have hN : S2.fs.length = S.fs.length := Al.len hR.nodup
  have hL1 := H.run_len 3
  have hL2 := H2.run_len 3
  rw [hN] at hL2
  have HH := hid H
  have HH2 := hid H2
  replace Al := hid Al
  have hlen := H.ok.len
  have hsz := hR.size
  clear H H2 hN
  go_enter Try.func49, Try.ntmps49
  go_wp2_with (at_range; refine wpList_range_own _ rfl _ 46 rfl 9 83 law Try.underlying46 _ b _ _ rfl hown ?_; intro w0 hrg0 hg0 hs0)
  go_frame
  go_loopw [7] (fun u wr => ∃ (left : Lit → Bool) (cnt : Nat) (ss : List K), wr.ranges Try.prog 9 heldR b w.heap.size S.fs.length D left cnt ∧ ss.length + cnt ≤ Maps.size D ∧ Collected D left ss ∧ Below w.heap.size w wr) (fun _ wr => wr.rangeLeft b w.heap.size)
  case atStart => exact ⟨_, _, [], hrg0, by simp, Collected.start D, (Below.refl _ _).grown hg0 (Nat.le_refl _) (fun j hj => by cases hj)⟩
  case round =>
    obtain ⟨left, cnt, ss, hrg, hcs, hC, hnx⟩ := hrel
    rcases hrg.next law 0 with ⟨h0, hl0, hrun⟩ | ⟨key, v, kl, y, w2, cnt2, hkey, hlk, hv, hat, hrun, hrg2, hlt, hg2, hs2, hen⟩
    · have hnx := hid hnx
      clear hrg hC hl0
      go_wp2_with fail
      go_ret
      exact ⟨rfl, hnx.out⟩
    · obtain ⟨x, rfl, rfl, _⟩ := Maps.keyOf_str Try.underlying9 hkey
      obtain ⟨f, hl, hy⟩ := hR.met hat
      have hvf : v = f.val := by
        have : (DataW.held v, ([] : List MemPlace)) = y := Option.some.inj hv
        rw [← this] at hy
        simpa using hy
      have hmem := seek_mem hl
      obtain ⟨sl2, hl2⟩ := Al.out.at_ x f hl
      have hmem2 := seek_mem hl2
      obtain ⟨a, c, hsl, HBf⟩ := Cl.own_bytes (HH.out.mem.row _ hmem) (HH.out.mem.bytes _ hmem)
      obtain ⟨a2, c2, hsl2, HBf2⟩ := Cl.own_bytes (HH2.out.mem.row _ hmem2) (HH2.out.mem.bytes _ hmem2)
      simp only at hsl HBf hsl2 HBf2
      subst hsl2
      have hval : f.val = .agg #[.slice a f.zs.length c, .int .i64 f.k] := by rw [← hsl]; rfl
      rw [hvf, hval] at hrun hen
      have hb64 : 1 ≤ x.length ∧ x.length ≤ 64 := HH.out.ok.name _ hmem
      obtain ⟨W3, hW3⟩ : ∃ W3, W3 = w2.alloc (.cells #[.slice a f.zs.length c, .int .i64 f.k] 83) := ⟨_, rfl⟩
      obtain ⟨W4, hW4⟩ : ∃ W4, W4 = W3.alloc (.cells #[.slice a2 f.zs.length c2, .int .i64 f.k] 83) := ⟨_, rfl⟩
      have hb3 : Below w.heap.size w W3 := by rw [hW3]; exact (hnx.grown hg2 hnx.size (fun j hj => by cases hj; exact Nat.le_refl _)).alloc (by have := hnx.size; have := hg2.size; omega) _
      have hb4 : Below w.heap.size w W4 := by rw [hW4]; exact hb3.alloc hb3.size _
      have HFS := hid (file_same (k := f.k) (bytes_kept HBf hb4) (bytes_kept HBf2 hb4))
      have hLk := (HH2.out.later hb3).run_look ⟨x.toArray⟩ (by show x.toArray.size ≤ _; simpa using hb64.2) true
      have hd : (⟨x.toArray⟩ : ByteArray).data.toList = x := by simp
      rw [hd, hl2] at hLk
      have hLk : (Instr.lookup 46 (.map (some b2)) (Go.Proofs.encStr x) true).run Try.prog W3 = .ok (.tuple #[.agg #[.slice a2 f.zs.length c2, .int .i64 f.k], .bool true]) W3 := hLk
      have hC2 := hid (hC.step hlk hat)
      have hrg3 := hid ((hrg2.alloc (.cells #[.slice a f.zs.length c, .int .i64 f.k] 83)).alloc (.cells #[.slice a2 f.zs.length c2, .int .i64 f.k] 83))
      rw [← hW3, ← hW4] at hrg3
      have hcs3 : Hid ((ss ++ [x]).length + cnt2 ≤ Maps.size D) := by show _ ≤ _; simp; omega
      have hleft := hid hrg.left_eq
      have hltt := hid hlt
      have B4 := hid hb4
      rw [hW4] at HFS hrg3 B4
      rw [hW3] at HFS hrg3 B4 hLk
      clear hb3 hb4
      clear hW4
      clear hW3
      generalize f.zs.length = n at *
      generalize f.k = kk at *
      clear hrg hrg2 hC hat hv hy hvf hval hsl hl hl2 hkey hlk hs2 hg2 hnx hlt hmem hmem2 HBf HBf2 hb64 hd
      go_wp2_with fail
      refine HFS.out.mono ?_
      rintro e w5 ⟨rfl, b5⟩
      have hrg5 := hid (hrg3.out.kept (row := none) ⟨b5.os, b5.tape, b5.output, b5.size, fun j hj _ => b5.block j hj⟩ (by simp) (by simp))
      have B5 := hid (B4.out.trans (b5.mono B4.out.size))
      clear b5 HFS B4 hrg3
      go_wp2_with fail
      go_roundw
      case rel => exact ⟨_, cnt2, ss ++ [x], hrg5.out, hcs3.out, hC2.out, B5.out⟩
      case measure => rw [hrg5.out.left_eq, hleft.out]; exact hltt.out
set_option maxRecDepth 100000 in
set_option maxHeartbeats 2000000 in
theorem same_yes {base g b base2 g2 b2 : Nat} {P P2 : Nat → Prop} {S S2 : St} (w : World) (H : Disk w base g b P S) (H2 : Disk w base2 g2 b2 P2 S2) (Al : Go.Proofs.Ytgffojafdjcdoaa.Pw.Alike S2.fs S.fs) : Calls Try.prog 16 #[.pointer (some ⟨g, 0, none⟩), .pointer (some ⟨g2, 0, none⟩)] w fun e w' => e = .returned (.bool true) ∧ Below w.heap.size w w' := by
  have HI1 := hid (isnone_any w H)
  have HI2 := hid (isnone_any w H2)
  have HQ1 : Hid (∀ W, Below w.heap.size w W → W.cell? ⟨g, 0, none⟩ = some (.map (some b))) := fun W hW => (H.later hW).cell 0
  have HQ2 : Hid (∀ W, Below w.heap.size w W → W.cell? ⟨g2, 0, none⟩ = some (.map (some b2))) := fun W hW => (H2.later hW).cell 0
  have HE := hid (fun W (h : Below w.heap.size w W) => equalfunc_yes W (H.later h) (H2.later h) Al)
  clear H H2 Al
  go_enter Try.func16, Try.ntmps16
  go_wp2_with fail
  refine HI1.out.mono ?_
  rintro e w ⟨rfl, rfl⟩
  go_wp2_with fail
  refine HI2.out.mono ?_
  rintro e w ⟨rfl, rfl⟩
  go_wp2_with fail
  refine wp_region_held_drew (S := fun W => Below w.heap.size w W) (by kernel_rfl) ((Below.refl _ _).drew) (fun hS => ?_)
  generalize World.drew w = D at *
  refine wpAnyH_take (i := 0) (v := ?v1) rfl (by kernel_rfl) (by kernel_rfl) (by kernel_rfl) (fun _ _ _ h => h) (Or.inl ⟨by rfl, ?h1⟩) hS ?_
  case h1 => (intro W hW; go_simp; try (with_reducible rfl))
  go_simp
  refine wpAnyH_take (i := 1) (v := ?v2) rfl (by kernel_rfl) (by kernel_rfl) (by kernel_rfl) (fun _ _ _ h => h) (Or.inl ⟨by rfl, ?h2⟩) hS ?_
  case h2 => (intro W hW; go_simp; try (with_reducible rfl))
  go_simp
  refine wpAnyH_take (i := 2) (v := ?v3) rfl (by kernel_rfl) (by kernel_rfl) (by kernel_rfl) (fun _ _ _ h => h) (Or.inl ⟨by rfl, ?h3⟩) hS ?_
  case h3 => (intro W hW; go_simp; try (with_reducible rfl))
  go_simp
  refine wpAnyH_take (i := 3) (v := ?v4) rfl (by kernel_rfl) (by kernel_rfl) (by kernel_rfl) (fun _ _ _ h => h) (Or.inl ⟨by rfl, ?h4⟩) hS ?_
  case h4 => (intro W hW; have q1 := HQ1.out W hW; go_simp; try (with_reducible rfl))
  go_simp
  refine wpAnyH_take (i := 4) (v := ?v5) rfl (by kernel_rfl) (by kernel_rfl) (by kernel_rfl) (fun _ _ _ h => h) (Or.inl ⟨by rfl, ?h5⟩) hS ?_
  case h5 => (intro W hW; go_simp; try (with_reducible rfl))
  go_simp
  refine wpAnyH_take (i := 5) (v := ?v6) rfl (by kernel_rfl) (by kernel_rfl) (by kernel_rfl) (fun _ _ _ h => h) (Or.inl ⟨by rfl, ?h6⟩) hS ?_
  case h6 => (intro W hW; go_simp; try (with_reducible rfl))
  go_simp
  refine wpAnyH_take (i := 6) (v := ?v7) rfl (by kernel_rfl) (by kernel_rfl) (by kernel_rfl) (fun _ _ _ h => h) (Or.inl ⟨by rfl, ?h7⟩) hS ?_
  case h7 => (intro W hW; go_simp; try (with_reducible rfl))
  go_simp
  refine wpAnyH_take (i := 7) (v := ?v8) rfl (by kernel_rfl) (by kernel_rfl) (by kernel_rfl) (fun _ _ _ h => h) (Or.inl ⟨by rfl, ?h8⟩) hS ?_
  case h8 => (intro W hW; have q2 := HQ2.out W hW; go_simp; try (with_reducible rfl))
  go_simp
  refine wpAnyH_ready (rs := [8]) (by kernel_rfl) (by simp) ?_
  refine AllReadyH.cons rfl (fun K hK => ?_) ?_
  · go_simp
    go_wp2_with fail
    refine (HE.out _ hS).mono ?_
    rintro e y8 ⟨rfl, c8⟩
    refine hK.out _ _ (hS.trans (c8.mono hS.size)) (fun hS => ?_)
    clear hK K c8
    refine wpAnyH_take (i := 9) (v := ?v9) rfl (by kernel_rfl) (by kernel_rfl) (by kernel_rfl) (fun _ _ _ h => h) (Or.inl ⟨by rfl, ?h9⟩) hS ?_
    case h9 => (intro W hW; go_simp; try (with_reducible rfl))
    go_simp
    refine wpAnyH_done (by kernel_rfl) ?_ _
    go_wp2_with fail
    go_ret
    exact ⟨rfl, hS⟩
  exact AllReadyH.nil
end Go.Proofs.Ytgffojafdjcdoaa.Sm
