/- The document's Make by its contract: the same filter. -/
import Derived.Test.YtempagacpfejdaaRb
import Derived.StillTailTactics
namespace Go.Proofs.Ytempagacpfejdaa.Rm
open Go.ChangeShapes Go.WideShapes Go.ChangeAt Go.RowKit Go.Shelf
open Go.Proofs.Ytempagacpfejdaa.Wd
open Go.Proofs.Ytempagacpfejdaa.Hs
open Go.Proofs.Ytempagacpfejdaa.Pr
open Go.Proofs.Ytempagacpfejdaa.Rq
open Go.Proofs.Ytempagacpfejdaa.Bi
open Go.Proofs.Ytempagacpfejdaa.Fl
open Go.Proofs.Ytempagacpfejdaa.Mk
open Go.Proofs.Ytempagacpfejdaa.Op
open Go.Proofs.Ytempagacpfejdaa.Rb
set_option linter.unusedVariables false
set_option linter.unusedSimpArgs false

theorem region_tail {P : Program} {id : Nat} {Q : Exit → Act → World → Prop} {a : Act} {w : World} {l : List Oper} (n : Nat) (hm : P.follows .mixedOrders = true) (hB : Region.lexTailB .any l.toArray n = true)
    (h : wpStill P l.toArray w.drew (fun a' => wpList P l.toArray Q (l.drop n) a' w.drew) (l.take n) a) : (Code.region id l.toArray true).wp P Q a w := wp_region_still_tail n hm hB h
/-- What stands while the document's Make goes through the keys. -/
structure Rj (w : World) (n0 r k : Nat) (L : List Nat) (W : World) : Prop where
  f : Fb W n0 (fill (List.replicate r 0#8 ++ [BitVec.ofNat 8 k]) L)
  lo : Below n0 w W
theorem Rj.later {w : World} {n0 r k : Nat} {L : List Nat} {W W' : World} (h : Rj w n0 r k L W) (b : Below W.heap.size W W') : Rj w n0 r k L W' :=
  ⟨h.f.later b, h.lo.trans (b.mono (by have := blk_lt h.f; omega))⟩
theorem Rj.put {w : World} {n0 r k : Nat} {L : List Nat} {W : World} (h : Rj w n0 r k L W) (x : Nat) :
    Rj w n0 r k (L ++ [x]) (W.setCell ⟨n0, x / 8, none⟩ (.int .u8 (bi ((fill (List.replicate r 0#8 ++ [BitVec.ofNat 8 k]) L).getD (x / 8) 0#8 ||| 1#8 <<< (x % 8))))) := by
  refine ⟨?_, h.lo.setCell (p := ⟨n0, x / 8, none⟩) (Nat.le_refl _) _⟩
  rw [fill_append]
  exact h.f.set _ _
theorem own_set {W : World} {base g : Nat} {v : Value} {xs : List Nat} (h : OwnI W base v xs) (hg : g < base) (i : Nat) (u : Value) : OwnI (W.setCell ⟨g, i, none⟩ u) base v xs := by
  have K : W.grownBy (W.setCell ⟨g, i, none⟩ u) (some g) := ⟨rfl, rfl, rfl, by simp, fun q _ hne => set_ne _ _ _ _ _ (fun e => hne (by rw [e]))⟩
  by_cases hv : v.ownBlock = none
  · exact World.ownsRow.kept h K (.inl hv)
  · refine World.ownsRow.kept h K (.inr (fun e => ?_))
    have := (World.ownsRow.lt h g e).1
    omega
theorem take_snoc (l : List Nat) (j : Nat) (h : j < l.length) : l.take (j + 1) = l.take j ++ [l.getD j 0] := by
  rw [List.take_add_one, List.getElem?_eq_getElem h, List.getD_eq_getElem?_getD, List.getElem?_eq_getElem h]; rfl
set_option maxRecDepth 100000 in
set_option maxHeartbeats 400000 in
theorem rmake_ok (a : Option Addr) (len cap : Nat) (ks : List ByteArray) (b : Nat) (w : World) (H : Strs w a len cap ks) (hb1 : 1 ≤ b) (hb2 : b ≤ 64) (hlen : len ≤ 8796093022208) :
    Calls Try.prog 15 #[.slice a len cap, .int .i64 (b : Int)] w fun e w' => e = .returned (.tuple #[.slice (some ⟨w.heap.size, 0, none⟩) (room len b + 1) (room len b + 1), .int .i64 0]) ∧ Fb w' w.heap.size (mkf ks b) ∧ Below w.heap.size w w' := by
  have HP := hid (rprobes_ok b hb1 hb2 w)
  have hpb := pb_bd b
  have hlb : len * b ≤ 562949953421312 := by have := Nat.mul_le_mul hlen hb2; omega
  have hr8 := room_ge len b
  have hrl := room_le len b hb2
  have hro : Hid ((max ((len : Int) * (b : Int)) 64 + 7) / 8 = (room len b : Int)) := by
    show _ = _
    unfold room
    rw [← Int.natCast_mul]
    generalize len * b = q
    omega
  have hm1 : (len : Int) * (b : Int) ≤ 562949953421312 := by rw [← Int.natCast_mul]; omega
  have hm0 : 0 ≤ (len : Int) * (b : Int) := by rw [← Int.natCast_mul]; omega
  obtain ⟨r, hr⟩ : ∃ r, r = room len b := ⟨_, rfl⟩
  rw [← hr] at hro hr8 hrl ⊢
  have hmk := mk_run w (r + 1) (by omega)
  rw [show ((r + 1 : Nat) : Int) = (r : Int) + 1 from by omega] at hmk
  obtain ⟨k, hkb⟩ : ∃ k, k = pb b := ⟨_, rfl⟩
  rw [← hkb] at HP hpb
  replace hkb := hid hkb
  replace hmk := hid hmk
  replace hr := hid hr
  clear hlb
  go_enter Try.func15, Try.ntmps15
  go_wp2_with fail
  refine HP.out.mono ?_
  rintro e w' ⟨rfl, rfl⟩
  go_wp2_with fail
  rw [hro.out, hmk.out]
  have k255 : (k : Int) ≤ 255 := by omega
  have hkw : IntKind.u8.wrap (k : Int) = (k : Int) := by rw [wrap_u8]; omega
  have hri : (r : Int) < ((r + 1 : Nat) : Int) := by omega
  have zf : Fb (w'.alloc (.cells ((List.replicate (r + 1) 0#8).map bv).toArray 5)) w'.heap.size (List.replicate (r + 1) 0#8) := new_at _ _
  obtain ⟨Wa, hWa⟩ : ∃ Wa, Wa = w'.alloc (.cells ((List.replicate (r + 1) 0#8).map bv).toArray 5) := ⟨_, rfl⟩
  rw [← hWa] at zf ⊢
  have Ba : Hid (Below w'.heap.size w' Wa) := by rw [hWa]; exact box_below _ _
  obtain ⟨n0, hn0⟩ : ∃ n0, n0 = w'.heap.size := ⟨_, rfl⟩
  rw [← hn0] at zf Ba ⊢
  replace hWa := hid hWa
  generalize max ((len : Int) * (b : Int)) 64 = q1
  generalize (len : Int) * (b : Int) = q0 at *
  clear hmk hro hm1 hm0
  have hS : Hid (∀ W, Below n0 w' W → Strs W a len cap ks) := fun W h => H.later (by rw [← hn0]; exact h)
  have hks := H.1
  clear H
  replace hn0 := hid hn0
  have zc := zf.cell r (by simp)
  have zz := fz_of zf r
  have M0 : Rj w' n0 r k (kbs (ks.take 0) r k) (Wa.setCell ⟨n0, r, none⟩ (.int .u8 (k : Int))) := by
    refine ⟨?_, Ba.out.setCell (p := ⟨n0, r, none⟩) (by simp) _⟩
    have := zf.set r (BitVec.ofNat 8 k)
    rw [k8_i k (by omega)] at this
    unfold Fb at this ⊢
    rw [this]
    simp only [List.take_zero, kbs, List.flatMap_nil, fill, List.foldl_nil]
    rw [rep_set]
  replace zf := hid zf
  replace M0 := hid M0
  go_wp2_with fail
  generalize Wa.setCell ⟨n0, r, none⟩ (.int .u8 (k : Int)) = Wb at M0
  clear zf zc zz Ba hWa
  go_loopw [10] (fun iv wr => ∃ i : Nat, i ≤ len ∧ iv = .int .i64 (i : Int) ∧ Hid (Rj w' n0 r k (kbs (ks.take i) r k) wr)) (fun iv _ => len - (intOf iv).toNat)
  case atStart => exact ⟨0, by omega, rfl, M0⟩
  case round =>
    obtain ⟨i, hi, rfl, hM⟩ := hrel
    by_cases hlt : i < len
    · obtain ⟨bk, off, rfl, ck⟩ := (hS.out wr hM.out.lo).2.2.2.2 i hlt
      have hsz : (ks.getD i ByteArray.empty).size ≤ 9223372036854775807 := by
        rw [List.getD_eq_getElem?_getD, List.getElem?_eq_getElem (by omega)]
        exact (hS.out wr hM.out.lo).2.2.1 _ (List.getElem_mem _)
      have hkk : Hid (kbs (ks.take (i + 1)) r k = kbs (ks.take i) r k ++ kb (ks.getD i ByteArray.empty) (8 * r) k) := kbs_succ ks r k i (by omega)
      generalize ks.getD i ByteArray.empty = s at ck hsz hkk
      have ik : (i : Int) < (len : Int) := by omega
      have HB := hid (rbits_any s (8 * r) k wr hsz (by omega) (by omega) (by omega))
      rw [show ((8 * r : Nat) : Int) = 8 * (r : Int) by omega] at HB
      have hgl := blk_lt hM.out.f
      generalize kbs (ks.take i) r k = L0 at *
      go_wp2_with fail
      refine HB.out.mono ?_
      rintro e w2 ⟨g, c, rfl, hO, hb2'⟩
      have hM2 := hid (hM.out.later hb2')
      have hL := kb_len s (8 * r) k
      have hLt := hid (kb_lt s (8 * r) k (by omega))
      generalize kb s (8 * r) k = L at *
      obtain ⟨N, hN⟩ : ∃ N, Hid (N = wr.heap.size) := ⟨_, rfl⟩
      rw [← hN.out] at hO hgl
      replace hO := hid hO
      replace hb2' := hid hb2'
      go_wp2_with fail
      go_loopw [12] (fun jv wq => ∃ j : Nat, j ≤ k ∧ jv = .int .i64 (j : Int) ∧ Hid (Rj w' n0 r k (L0 ++ L.take j) wq) ∧ Hid (OwnI wq N (.slice g k c) L)) (fun jv _ => k - (intOf jv).toNat)
      case atStart => exact ⟨0, by omega, rfl, by simpa using hM2, hO⟩
      case round =>
        obtain ⟨j, hj, rfl, hQ, hOq⟩ := hrel
        by_cases hlj : j < k
        · obtain ⟨gg, rfl, cx⟩ := hOq.out.cell j (by omega)
          have hxl : L.getD j 0 < 8 * r := hLt.out _ (by rw [List.getD_eq_getElem?_getD, List.getElem?_eq_getElem (by omega)]; exact List.getElem_mem _)
          have hTk := hid (take_snoc L j (by omega))
          generalize L.getD j 0 = x at cx hxl hTk
          obtain ⟨y, hy⟩ : ∃ y, y = x / 8 := ⟨_, rfl⟩
          obtain ⟨z, hz⟩ : ∃ z, z = x % 8 := ⟨_, rfl⟩
          have e8 : (x : Int) / 8 = (y : Int) := by omega
          have e9 : Op.shift .shl .u8 1 .i64 ((x : Int).tmod 8) = pure (.int .u8 (bi (1#8 <<< z))) := by rw [Int.tmod_eq_emod_of_nonneg (by omega), show (x : Int) % 8 = (z : Int) by omega]; exact shl1 z (by omega)
          have wy : IntKind.i64.wrap (y : Int) = (y : Int) := wrapi _ (by omega) (by omega)
          have hyi : (y : Int) < (r : Int) + 1 := by omega
          have hz8 : z < 8 := by omega
          have hQ3 : Rj w' n0 r k (L0 ++ L.take j) wr.drew := hQ.out.later ⟨rfl, rfl, rfl, Nat.le_refl _, fun _ _ => rfl⟩
          have hO3 : OwnI wr.drew N (.slice (some ⟨gg, 0, none⟩) k c) L := hOq.out.later ⟨rfl, rfl, rfl, Nat.le_refl _, fun _ _ => rfl⟩
          have cx3 : wr.drew.cell? ⟨gg, j, none⟩ = some (.int .i64 (x : Int)) := cx
          have cy := hQ3.f.cell y (by rw [fill_len]; simp; omega)
          have fy := fz_of hQ3.f y
          generalize hfo : fill (List.replicate r 0#8 ++ [BitVec.ofNat 8 k]) (L0 ++ L.take j) = fo at cy
          generalize hvo : fo.getD y 0#8 = v at cy
          have vb := bi_bd v
          have oo := or_b v (1#8 <<< z)
          have ij : (j : Int) < (k : Int) := by omega
          have xb : (x : Int) ≤ 9223372036854775807 := by omega
          replace hQ3 := hid hQ3
          replace hO3 := hid hO3
          replace hfo := hid hfo
          replace hvo := hid hvo
          replace hy := hid hy
          replace hz := hid hz
          go_wp2_with fail
          refine region_tail 16 (by kernel_rfl) (by kernel_rfl) ?_
          simp only [List.take_succ_cons, List.take_zero, List.drop_succ_cons, List.drop_zero]
          repeat still_step
          refine wpStill_nil ?_
          go_wp2
          have hP := hQ3.out.put x
          have hw : (wr.setCell ⟨n0, y, none⟩ (.int .u8 (bi (v ||| 1#8 <<< z)))).drew = wr.drew.setCell ⟨n0, x / 8, none⟩ (.int .u8 (bi ((fill (List.replicate r 0#8 ++ [BitVec.ofNat 8 k]) (L0 ++ L.take j)).getD (x / 8) 0#8 ||| 1#8 <<< (x % 8)))) := by
            rw [hfo.out, ← hy.out, hvo.out, ← hz.out]
            rfl
          rw [List.append_assoc, ← hTk.out] at hP
          rw [hw]
          exact ⟨⟨j + 1, by omega, by go_num, hP, own_set hO3.out hgl _ _⟩, by simp [intOf]; omega⟩
        · have e2 : j = k := by omega
          subst e2
          rw [List.take_of_length_le (by omega), ← hkk.out] at hQ
          have ij : ¬ (j : Int) < (j : Int) := by omega
          go_wp2_with fail
          exact ⟨⟨i + 1, by omega, by go_num, hQ⟩, by simp [intOf]; omega⟩
    · have e1 : i = len := by omega
      subst e1
      rw [List.take_of_length_le (by omega)] at hM
      have ij : ¬ (i : Int) < (i : Int) := by omega
      go_wp2_with fail
      go_ret2
      refine ⟨by rw [hn0.out]; rfl, ?_, by rw [← hn0.out]; exact hM.out.lo⟩
      have := hM.out.f
      rw [fill_last _ _ _ (fun b hb => by rw [List.length_replicate]; have := kbs_lt ks r k (by omega) b hb; omega)] at this
      rw [← hn0.out]
      unfold mkf flt
      rw [hks, ← hr.out, ← hkb.out]
      exact this
set_option maxRecDepth 100000 in
theorem rmake_no (v : Value) (b : Int) (w : World) (h : b < 1 ∨ 64 < b) : Calls Try.prog 15 #[v, .int .i64 b] w fun e w' => e = .returned (.tuple #[.slice none 0 0, .int .i64 2]) ∧ w' = w := by
  have HP := hid (rprobes_no b h w)
  clear h
  go_enter Try.func15, Try.ntmps15
  go_wp2_with fail
  refine HP.out.mono ?_
  rintro e w' ⟨rfl, rfl⟩
  go_wp2_with fail
  go_ret2
  exact ⟨rfl, rfl⟩
end Go.Proofs.Ytempagacpfejdaa.Rm
