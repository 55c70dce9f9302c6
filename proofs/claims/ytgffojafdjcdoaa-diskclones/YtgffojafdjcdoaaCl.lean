/- Clone by its contract: a disk of its own with the same files. -/
import Derived.Test.YtgffojafdjcdoaaBc
import Derived.Test.YtgffojafdjcdoaaPw
namespace Go.Proofs.Ytgffojafdjcdoaa.Cl
open Go.ChangeShapes Go.WideShapes Go.ChangeAt Go.RowKit Go.Maps
open Go.Proofs.Ytgffojafdjcdoaa.By
open Go.Proofs.Ytgffojafdjcdoaa.Ln
open Go.Proofs.Ytgffojafdjcdoaa.Mp
open Go.Proofs.Ytgffojafdjcdoaa.Dk
open Go.Proofs.Ytgffojafdjcdoaa.Df
open Go.Proofs.Ytgffojafdjcdoaa.Dh
open Go.Proofs.Ytgffojafdjcdoaa.Us
open Go.Proofs.Ytgffojafdjcdoaa.Pw (mem_names)
set_option linter.unusedVariables false
set_option linter.unusedSimpArgs false

theorem own_bytes {w : World} {base : Nat} {f : Fl} (h : ownB w base f) (hb : ∀ y ∈ f.zs, 0 ≤ y ∧ y ≤ 255) : ∃ a c, f.sl = .slice a f.zs.length c ∧ Bytes w a f.zs.length c f.zs := by
  have hh := h
  rcases h.2 with ⟨e, h0⟩ | ⟨g, c, cur, e, hb', hg, hn, hm, hs, ht⟩
  · have : f.zs = [] := List.eq_nil_of_length_eq_zero h0
    rw [this]
    exact ⟨none, 0, by simpa using e, rfl, Nat.le_refl _, fun _ => ⟨rfl, rfl⟩, by simp, by simp⟩
  · refine ⟨some ⟨g, 0, none⟩, c, e, rfl, hn, fun e => by simp at e, hb, ?_⟩
    intro x hx i hi
    simp at hx
    subst hx
    have hh' : w.ownsRow base 5 1 (.slice (some ⟨g, 0, none⟩) f.zs.length c) f.zs.length (f.zs.map (Value.int .u8)) := by rw [← e]; exact hh
    rw [addr_add, Nat.zero_add, World.ownsRow.cellAt hh' i (by omega), List.getElem?_map, List.getD_eq_getElem?_getD, List.getElem?_eq_getElem hi]
    rfl
/-- The files that have been met, in memory of their own. -/
structure Met (fs2 fs : Fs) (ss : List K) : Prop where
  nd : (names fs2).Nodup
  is : ∀ s, (seek fs2 s).isSome = true ↔ s ∈ ss
  at_ : ∀ s f, s ∈ ss → seek fs s = some f → ∃ sl, seek fs2 s = some ⟨sl, f.zs, f.k⟩
theorem Met.start (fs : Fs) : Met [] fs [] := ⟨List.nodup_nil, fun s => by simp [seek], fun s f h => by simp at h⟩
theorem Met.put {fs2 fs : Fs} {ss : List K} (h : Met fs2 fs ss) (s : K) (f : Fl) (hf : seek fs s = some f) (sl : Value) : Met (put fs2 s ⟨sl, f.zs, f.k⟩) fs (ss ++ [s]) := by
  refine ⟨nodup_put _ _ h.nd, fun t => ?_, fun t g ht hg => ?_⟩
  · by_cases e : t = s
    · subst e; rw [seek_put_same]; simp
    · rw [seek_put_other _ e, h.is]; simp [e]
  · by_cases e : t = s
    · subst e
      rw [hf] at hg
      cases hg
      exact ⟨sl, seek_put_same _ _ _⟩
    · rw [seek_put_other _ e]
      exact h.at_ t g (by simpa [e] using ht) hg
theorem sum_sub (fs : Fs) : ∀ {l m : List K}, l.Nodup → (∀ x ∈ l, x ∈ m) → sumOf fs l ≤ sumOf fs m
  | [], m, _, _ => by simp [sumOf]
  | x :: t, m, hl, h => by
    have hx : x ∈ m := h x (by simp)
    rw [sum_perm (List.perm_cons_erase hx)]
    have ih := sum_sub fs (List.nodup_cons.1 hl).2 (fun y hy => by
      have hyx : y ≠ x := fun e => (List.nodup_cons.1 hl).1 (e ▸ hy)
      exact (List.mem_erase_of_ne hyx).2 (h y (by simp [hy])) : ∀ y ∈ t, y ∈ m.erase x)
    simp only [sumOf, List.map_cons, List.sum_cons] at ih ⊢
    omega
theorem own_base {w : World} {base base' e size : Nat} {v : Value} {n : Nat} {xs : List Value} (h : w.ownsRow base e size v n xs) (hb : base' ≤ base) : w.ownsRow base' e size v n xs := by
  refine ⟨h.1, ?_⟩
  rcases h.2 with h | ⟨g, c, cur, h1, h2, h3⟩
  · exact .inl h
  · exact .inr ⟨g, c, cur, h1, Nat.le_trans hb h2, h3⟩
theorem used_le_len {w : World} {base g b : Nat} {P : Nat → Prop} {S : St} (H : Disk w base g b P S) {s : K} {f : Fl} (h : seek S.fs s = some f) : f.zs.length ≤ 268435456 := by
  have := used_mem (seek_mem h)
  have := H.ok.used
  simp only at *
  omega
theorem del_len (fs : Fs) (s : K) : (del fs s).length ≤ fs.length := List.length_filter_le _ _
theorem put_len (fs : Fs) (s : K) (f : Fl) : (put fs s f).length ≤ fs.length + 1 := by
  have := del_len fs s
  unfold put
  simp
  omega
theorem used_del_le (fs : Fs) (s : K) : used (del fs s) ≤ used fs := by
  unfold del
  induction fs with
  | nil => simp [used]
  | cons p t ih =>
    rw [List.filter_cons, used_cons]
    split
    · rw [used_cons]; omega
    · omega
theorem used_put_le (fs : Fs) (s : K) (f : Fl) : used (put fs s f) ≤ used fs + f.zs.length := by
  have := used_del_le fs s
  unfold put
  rw [used_cons]
  show f.zs.length + _ ≤ _
  omega
theorem mk_map (n : Int) (w : World) : (Instr.makeMap 46 (some (.int .i64 n))).run Try.prog w = .ok (.map (some w.heap.size)) (w.alloc (.map #[] 0)) := by kernel_rfl
theorem Below.drew' {n : Nat} {a w : World} (h : Below n a w) : Below n a w.drew := ⟨h.os, h.tape, h.output, h.size, h.block⟩
theorem row_sl {w : World} {base n : Nat} {v : Value} {xs : List Value} (h : w.ownsRow base 5 1 v n xs) : ∃ a c, v = .slice a n c := by
  rcases h.2 with ⟨e, h0⟩ | ⟨g, c, _, e, _⟩
  · exact ⟨none, 0, by rw [h0]; exact e⟩
  · exact ⟨_, c, e⟩
/-- The blocks that are the clone's own: the new ones, without the range's. -/
def Pq (n0 : Nat) (W : World) : Nat → Prop := fun j => n0 ≤ j ∧ j < W.heap.size ∧ j ≠ n0 + 2
theorem _root_.Go.Proofs.Ytgffojafdjcdoaa.Dk.Disk.wide2 {w : World} {base g b : Nat} {P P' : Nat → Prop} {S : St} (h : Disk w base g b P S) (hP : ∀ j, P j → P' j) (hl : ∀ j, P' j → base ≤ j ∧ j < w.heap.size) : Disk w base g b P' S := h.wide hP hl
set_option maxRecDepth 10000 in
set_option maxHeartbeats 1000000 in
theorem clone_any {base g b : Nat} {P : Nat → Prop} {S : St} (w : World) (H : Disk w base g b P S) : Calls Try.prog 14 #[.pointer (some ⟨g, 0, none⟩)] w fun e w' => ∃ g2 b2 fs2, e = .returned (.pointer (some ⟨g2, 0, none⟩)) ∧ Disk w' w.heap.size g2 b2 (fun j => w.heap.size ≤ j ∧ j < w'.heap.size) { S with fs := fs2 } ∧ Go.Proofs.Ytgffojafdjcdoaa.Pw.Alike fs2 S.fs ∧ Below w.heap.size w w' := by
  obtain ⟨D, hown, hR⟩ := H.map
  have HH := hid H
  have c0 : w.cell? ⟨g, 0, none⟩ = some (.map (some b)) := H.cell 0
  have c1 : w.cell? ⟨g, 1, none⟩ = some (.int .i64 S.q) := H.cell 1
  have c2 : w.cell? ⟨g, 2, none⟩ = some (.int .i64 S.af) := H.cell 2
  have c3 : w.cell? ⟨g, 3, none⟩ = some (.int .i64 S.ct) := H.cell 3
  have c4 : w.cell? ⟨g, 4, none⟩ = some (.int .i64 S.rf) := H.cell 4
  have hLn := fun ty => H.run_len ty
  have hmm := mk_map
  have hlen := H.ok.len
  obtain ⟨n0, hn0⟩ : ∃ n0, n0 = w.heap.size := ⟨_, rfl⟩
  obtain ⟨WC, hWC⟩ : ∃ WC, WC = (w.alloc (.cells #[.map (some (w.heap.size + 1)), .int .i64 S.q, .int .i64 S.af, .int .i64 S.ct, .int .i64 S.rf] 50)).alloc (.map #[] 0) := ⟨_, rfl⟩
  have sC : WC.heap.size = n0 + 2 := by rw [hWC, hn0]; simp
  have bC : Below w.heap.size w WC := by rw [hWC]; exact (box_below w _).alloc (by simp) _
  have a0 : (w.alloc (.cells #[.map (some b), .int .i64 S.q, .int .i64 S.af, .int .i64 S.ct, .int .i64 S.rf] 50)).cell? ⟨g, 0, none⟩ = some (.map (some b)) := cell_later (box_below _ _) c0
  have hLa := fun ty => (H.later (box_below w (.cells #[.map (some b), .int .i64 S.q, .int .i64 S.af, .int .i64 S.ct, .int .i64 S.rf] 50))).run_len ty
  have aC : ((w.alloc (.cells #[.map (some (w.heap.size + 1)), .int .i64 S.q, .int .i64 S.af, .int .i64 S.ct, .int .i64 S.rf] 50)).alloc (.map #[] 0)).cell? ⟨g, 0, none⟩ = some (.map (some b)) := by rw [← hWC]; exact cell_later bC c0
  have hDC : Disk WC n0 n0 (n0 + 1) (fun j => n0 ≤ j ∧ j < WC.heap.size) { S with fs := [] } := by
    refine ⟨?_, ⟨.map [], ?_, rep_nil⟩, ⟨?_, ?_, ?_, ?_, ?_⟩, ⟨H.ok.q, H.ok.af, H.ok.ct, H.ok.rf, by simp, by simp [used], by simp⟩, ⟨Nat.le_refl _, by omega⟩, ⟨by omega, by omega⟩, fun j hj => hj⟩
    · rw [hWC, hn0]
      exact (Below.heap_alloc _ _ _ (by simp)).trans (by show (w.heap.push _)[w.heap.size]? = _; simp; rfl)
    · rw [hWC, hn0]
      have := World.ownsMap_made (w.alloc (.cells #[.map (some (w.heap.size + 1)), .int .i64 S.q, .int .i64 S.af, .int .i64 S.ct, .int .i64 S.rf] 50)) Try.prog 9 heldR
      simpa using this
    · intro p hp; simp at hp
    · intro p hp; simp at hp
    · intro p hp; simp at hp
    · intro p hp; simp at hp
    · intro p hp; simp at hp
  have hownC : WC.ownsMap Try.prog 9 heldR b S.fs.length D := map_of_block hown (bC.block _ hown.lt)
  have hHC := hid (H.later bC)
  have hgn : g < n0 := by rw [hn0]; exact H.plow g H.pg
  have hbn : b < n0 := by rw [hn0]; exact H.plow b H.pb
  have hsz := hR.size
  have hok := hid H.ok
  replace hDC := hid hDC
  replace bC := hid bC
  replace hWC := hid hWC
  clear H
  go_enter Try.func14, Try.ntmps14
  go_wp2_with fail
  refine (isnone_any w HH.out).mono ?_
  rintro e w1 ⟨rfl, rfl⟩
  rw [hWC.out] at hownC
  go_wp2_with (at_range; refine wpList_range_own _ rfl _ 46 rfl 9 83 law Try.underlying46 _ b _ _ rfl hownC ?_; intro w0 hrg0 hg0 hs0)
  rw [← hWC.out] at hrg0 hg0 hs0 hownC ⊢
  rw [sC] at hrg0 ⊢
  rw [← hn0]
  replace hn0 := hid hn0
  replace sC := hid sC
  go_frame
  go_loopw [4] (fun _ wr => ∃ (left : Lit → Bool) (cnt : Nat) (ss : List K) (fs2 : Fs), wr.ranges Try.prog 9 heldR b (n0 + 2) S.fs.length D left cnt ∧ ss.length + cnt ≤ Maps.size D ∧ Collected D left ss ∧ Met fs2 S.fs ss ∧ fs2.length ≤ ss.length ∧ used fs2 ≤ sumOf S.fs ss ∧ Disk wr n0 n0 (n0 + 1) (Pq n0 wr) { S with fs := fs2 } ∧ Below n0 w1 wr) (fun _ wr => wr.rangeLeft b (n0 + 2))
  case atStart =>
    have b00 : Below WC.heap.size WC w0 := (Below.refl _ _).grown hg0 (Nat.le_refl _) (fun j hj => by cases hj)
    refine ⟨_, _, [], [], hrg0, by simp, Collected.start D, Met.start _, by simp, by simp [used, sumOf], ?_, ?_⟩
    · refine (hDC.out.later b00).wide2 (fun j hj => ⟨hj.1, by have := b00.size; omega, by have := sC.out; have := hj.2; omega⟩) (fun j hj => ⟨hj.1, hj.2.1⟩)
    · rw [hn0.out]; exact bC.out.trans (b00.mono bC.out.size)
  case round =>
    obtain ⟨left, cnt, ss, fs2, hrg, hcs, hC, hMt, hl2, hu2, hD2, hbw⟩ := hrel
    rcases hrg.next law 0 with ⟨h0, hl0, hrun⟩ | ⟨key, v, kl, y, w2, cnt2, hkey, hlk, hv, hat, hrun, hrg2, hlt, hg2, hs2, hen⟩
    · have hAl : Hid (Go.Proofs.Ytgffojafdjcdoaa.Pw.Alike fs2 S.fs) := by
        have hp := (hC.perm hownC law Try.underlying9 hl0).trans hR.keys
        refine ⟨hMt.nd, fun s => ?_, fun s f hf => hMt.at_ s f (hp.mem_iff.2 (mem_names.2 (by rw [hf]; rfl))) hf⟩
        rw [Bool.eq_iff_iff, hMt.is, hp.mem_iff, mem_names]
      have hDe := hid (hD2.wide2 (P' := fun j => n0 ≤ j ∧ j < wr.heap.size) (fun j hj => ⟨hj.1, hj.2.1⟩) (fun j hj => hj))
      have hbw := hid hbw
      clear hrg hC hl0 hD2 hMt
      go_wp2_with fail
      go_ret
      rw [← hn0.out]
      exact ⟨n0, n0 + 1, fs2, rfl, hDe.out, hAl.out, hbw.out⟩
    · obtain ⟨x, rfl, rfl, hxs⟩ := Maps.keyOf_str Try.underlying9 hkey
      obtain ⟨f, hl, hy⟩ := hR.met hat
      have hvf : v = f.val := by
        have : (DataW.held v, ([] : List MemPlace)) = y := Option.some.inj hv
        rw [← this] at hy
        simpa using hy
      have hmem := seek_mem hl
      obtain ⟨a, c, hsl, HBf⟩ := own_bytes (HH.out.mem.row _ hmem) (HH.out.mem.bytes _ hmem)
      simp only at hsl HBf
      have hkl := HH.out.mem.lasts _ hmem
      have hbyt := HH.out.mem.bytes _ hmem
      have hval : f.val = .agg #[.slice a f.zs.length c, .int .i64 f.k] := by rw [← hsl]; rfl
      rw [hvf, hval] at hrun hen
      have hfl : flen S.fs x = f.zs.length := by unfold flen; rw [hl]
      have hC2 := hC.step hlk hat
      have hn64 : 1 ≤ x.length ∧ x.length ≤ 64 := hok.out.name _ hmem
      have hsum : sumOf S.fs (ss ++ [x]) ≤ used S.fs := by
        rw [← sum_names hR.nodup]
        refine sum_sub S.fs hC2.1 (fun z hz => ?_)
        have := ((hC2.2 z).1 hz).1
        rw [hR.has] at this
        exact mem_names.2 this
      rw [sum_snoc, hfl] at hsum
      have hMt2 := hid (hMt.put x f hl)
      have hus := hok.out.used
      obtain ⟨W3, hW3⟩ : ∃ W3, W3 = (w2.alloc (.cells #[.slice a f.zs.length c, .int .i64 f.k] 83)).drew := ⟨_, rfl⟩
      have s3 : W3.heap.size = w2.heap.size + 1 := by rw [hW3]; show (w2.alloc _).heap.size = _; simp
      have z3 : n0 + 4 ≤ W3.heap.size := by have := hrg.lt; have := hg2.size; omega
      have hk23 : Kp (Pq n0 wr) none wr W3 := by
        refine ⟨by have := hg2.size; omega, fun j hj _ => ?_⟩
        rw [hW3]
        show (w2.alloc _).heap[j]? = _
        rw [Below.heap_alloc _ _ _ (by have := hg2.size; have := hj.2.1; omega)]
        exact hg2.block j hj.2.1 (by have := hj.2.2; simpa using this)
      have D3 : Disk W3 n0 n0 (n0 + 1) (Pq n0 W3) { S with fs := fs2 } := hD2.kept hk23 (fun j hj => ⟨hj.1, by have := hg2.size; have := hj.2.1; omega, hj.2.2⟩) (fun j hj => ⟨hj.1, hj.2.1⟩)
      have hb3a : Below n0 w1 (w2.alloc (.cells #[.slice a f.zs.length c, .int .i64 f.k] 83)) := (hbw.grown hg2 (by have := hbw.size; have := hn0.out; omega) (fun j hj => by cases hj; omega)).alloc (by have := hbw.size; have := hg2.size; have := hn0.out; omega) _
      have hb3 : Below n0 w1 W3 := by rw [hW3]; exact Below.drew' hb3a
      have HB3 : Bytes W3 a f.zs.length c f.zs := bytes_kept HBf (by rw [← hn0.out]; exact hb3)
      have HCl := hid (fun W (h : Below W3.heap.size W3 W) => Bc.clone_bytes a f.zs.length c f.zs W (bytes_kept HB3 h) (by omega))
      have hST : Hid (∀ W v5, Below W3.heap.size W3 W → W.ownsRow W3.heap.size 5 1 v5 f.zs.length (f.zs.map (Value.int .u8)) → ∃ w6, (Instr.mapUpdate 46 (.map (some (n0 + 1))) (.string ⟨x.toArray⟩) (.agg #[v5, .int .i64 f.k])).run Try.prog W = .ok () w6 ∧ Disk w6 n0 n0 (n0 + 1) (Pq n0 w6) { S with fs := put fs2 x ⟨v5, f.zs, f.k⟩ } ∧ W.grownBy w6 (some (n0 + 1)) ∧ (∀ j, j ≠ n0 + 1 → w6.heap[j]? = W.heap[j]?)) := fun W v5 hW ho => by
        obtain ⟨w6, h1, h2, h3, h4⟩ := D3.run_store (P' := Pq n0 W) (row := none) ((Kp.refl (Pq n0 W3) W3 none).below (fun j hj => hj.2.1) hW) (by simp) (by simp) ⟨x.toArray⟩ (by show 1 ≤ x.toArray.size ∧ x.toArray.size ≤ 64; simpa using hn64) ⟨v5, f.zs, f.k⟩
          (fun p hp hne j hj => ⟨by simp, fun e => by
            have h1 := (World.ownsRow.lt ho j e).1
            have h2 := (D3.mem.mem p hp j hj).2.1
            omega⟩)
          (own_base ho (by omega)) hbyt hkl
          (by simp only [Cs.bytesOf]; have := put_len fs2 x ⟨v5, f.zs, f.k⟩; omega) (by simp only [Cs.bytesOf]; have := used_put_le fs2 x ⟨v5, f.zs, f.k⟩; simp only at this; omega)
          (fun j hj => ⟨hj.1, by have := hW.size; have := hj.2.1; omega, hj.2.2⟩) (fun j hj => by have := World.ownsRow.lt ho j hj; exact ⟨by omega, this.2, by omega⟩) (fun j hj => ⟨hj.1, hj.2.1⟩)
        simp only [Cs.bytesOf] at h2
        exact ⟨w6, h1, h2.wide2 (fun j hj => ⟨hj.1, by have := h3.size; have := hj.2.1; omega, hj.2.2⟩) (fun j hj => ⟨hj.1, hj.2.1⟩), h3, h4⟩
      have k0 : W3.cell? ⟨n0, 0, none⟩ = some (.map (some (n0 + 1))) := D3.cell 0
      have kb : W3.heap[w2.heap.size]? = some (.cells #[.slice a f.zs.length c, .int .i64 f.k] 83) := by rw [hW3]; show (w2.heap.push _)[w2.heap.size]? = _; simp
      have k1 : W3.cell? ⟨w2.heap.size, 0, none⟩ = some (.slice a f.zs.length c) := cell_of_row W3 w2.heap.size 0 _ 83 (0, 0) kb
      have k2 : W3.cell? ⟨w2.heap.size, 1, none⟩ = some (.int .i64 f.k) := cell_of_row W3 w2.heap.size 1 _ 83 (0, 0) kb
      have R3 : W3.ranges Try.prog 9 heldR b (n0 + 2) S.fs.length D (fun z => left z && !z.sameKey (.string x)) cnt2 := by
        rw [hW3]
        exact (hrg2.alloc _).kept (row := none) ⟨rfl, rfl, rfl, Nat.le_refl _, fun _ _ _ => rfl⟩ (by simp) (by simp)
      have hleft := hrg.left_eq
      have HEnd : Hid (∀ w5 w6 v5, Below W3.heap.size W3 w5 → Disk w6 n0 n0 (n0 + 1) (Pq n0 w6) { S with fs := put fs2 x ⟨v5, f.zs, f.k⟩ } → w5.grownBy w6 (some (n0 + 1)) →
          (∃ (left : Lit → Bool) (cnt : Nat) (ss : List K) (fs2 : Fs), w6.ranges Try.prog 9 heldR b (n0 + 2) S.fs.length D left cnt ∧ ss.length + cnt ≤ Maps.size D ∧ Collected D left ss ∧ Met fs2 S.fs ss ∧ fs2.length ≤ ss.length ∧ used fs2 ≤ sumOf S.fs ss ∧ Disk w6 n0 n0 (n0 + 1) (Pq n0 w6) { S with fs := fs2 } ∧ Below n0 w1 w6) ∧ w6.rangeLeft b (n0 + 2) < wr.rangeLeft b (n0 + 2)) := by
        intro w5 w6 v5 hb5 hD6 hg6
        have R5 := R3.kept (row := none) ⟨hb5.os, hb5.tape, hb5.output, hb5.size, fun j hj _ => hb5.block j hj⟩ (by simp) (by simp)
        have R6 := R5.kept hg6 (by simp; omega) (by simp)
        refine ⟨⟨_, cnt2, ss ++ [x], put fs2 x ⟨v5, f.zs, f.k⟩, R6, by simp; omega, hC2, hMt2.out v5, ?_, ?_, hD6, ?_⟩, ?_⟩
        · have := put_len fs2 x ⟨v5, f.zs, f.k⟩; simp; omega
        · have := used_put_le fs2 x ⟨v5, f.zs, f.k⟩; rw [sum_snoc, hfl]; simp only at this; omega
        · exact (hb3.trans (hb5.mono (by omega))).grown hg6 (by have := hb5.size; omega) (fun j hj => by cases hj; omega)
        · rw [R6.left_eq, hleft]; exact hlt
      replace hrg2 := hid hrg2
      replace hW3 := hid hW3
      clear hC hMt hD2 hbw hrg hC2 R3 D3 hk23 hb3 hb3a HB3 HBf hR hval hvf hat hv hy hl hmem hkey hlk hsum hn64 hkl hbyt hfl hus hlt hg2 hs2 hcs hl2 hu2 kb hsl
      generalize f.zs.length = n at *
      generalize f.k = kk at *
      go_wp2_with fail
      refine wp_region_any (by kernel_rfl) ?_
      change wpAny _ _ _ _ _ _ _ (World.drew _)
      rw [← hW3.out]
      refine wpAny_take (i := 0) (v := ?v1) rfl (by kernel_rfl) (by kernel_rfl) (by kernel_rfl) (fun _ _ _ h => h) (Or.inl ⟨by rfl, ?h1⟩) ?_
      case h1 => (intro w; go_simp; try (with_reducible rfl))
      go_simp
      refine wpAny_take (i := 2) (v := ?v2) rfl (by kernel_rfl) (by kernel_rfl) (by kernel_rfl) (fun _ _ _ h => h) (Or.inl ⟨by rfl, ?h2⟩) ?_
      case h2 => (intro w; go_simp; try (with_reducible rfl))
      go_simp
      refine wpAny_take (i := 3) (v := ?v3) rfl (by kernel_rfl) (by kernel_rfl) (by kernel_rfl) (fun _ _ _ h => h) (Or.inl ⟨by rfl, ?h3⟩) ?_
      case h3 => (intro w; go_simp; try (with_reducible rfl))
      go_simp
      refine wpAny_take (i := 6) (v := ?v4) rfl (by kernel_rfl) (by kernel_rfl) (by kernel_rfl) (fun _ _ _ h => h) (Or.inl ⟨by rfl, ?h4⟩) ?_
      case h4 => (intro w; go_simp; try (with_reducible rfl))
      go_simp
      refine wpAny_ready (rs := [1, 4, 7]) (by kernel_rfl) (by simp) ?_
      refine AllReady.cons rfl (fun K hK => ?_) ?_
      · go_simp
        refine hK _ _ ?_
        clear hK K
        refine wpAny_ready (rs := [4, 7]) (by kernel_rfl) (by simp) ?_
        refine AllReady.cons rfl (fun K hK => ?_) ?_
        · go_simp
          refine hK _ _ ?_
          clear hK K
          refine wpAny_ready (rs := [5, 7]) (by kernel_rfl) (by simp) ?_
          refine AllReady.cons rfl (fun K hK => ?_) ?_
          · go_simp
            go_wp2_with fail
            refine (HCl.out _ (Below.refl _ _)).mono ?_
            rintro e w5 ⟨v5, rfl, o5, b5⟩
            obtain ⟨a5, c5, rfl⟩ := row_sl o5
            obtain ⟨w6, r6, D6, g6, e6⟩ := hST.out w5 _ b5 o5
            have d0 := cell_later b5 k0
            have d1 := cell_later b5 k1
            have d2 := cell_later b5 k2
            replace o5 := hid o5
            replace b5 := hid b5
            replace D6 := hid D6
            replace g6 := hid g6
            replace e6 := hid e6
            refine hK _ _ ?_
            clear hK K
            refine wpAny_ready (rs := [7]) (by kernel_rfl) (by simp) ?_
            refine AllReady.cons rfl (fun K hK => ?_) ?_
            · go_simp
              refine hK _ _ ?_
              clear hK K
              refine wpAny_take (i := 8) (v := ?v5) rfl (by kernel_rfl) (by kernel_rfl) (by kernel_rfl) (fun _ _ _ h => h) (Or.inl ⟨by rfl, ?h5⟩) ?_
              case h5 => (intro w; go_simp; try (with_reducible rfl))
              go_simp
              refine wpAny_ready (rs := [9]) (by kernel_rfl) (by simp) ?_
              refine AllReady.cons rfl (fun K hK => ?_) ?_
              · go_simp
                refine hK _ _ ?_
                clear hK K
                refine wpAny_done (by kernel_rfl) ?_ _
                go_wp2_with fail
                exact HEnd.out w5 w6 _ b5.out D6.out g6.out
              exact AllReady.nil
            exact AllReady.nil
          refine AllReady.cons rfl (fun K hK => ?_) ?_
          · go_simp
            refine hK _ _ ?_
            clear hK K
            refine wpAny_ready (rs := [5]) (by kernel_rfl) (by simp) ?_
            refine AllReady.cons rfl (fun K hK => ?_) ?_
            · go_simp
              go_wp2_with fail
              refine (HCl.out _ (Below.refl _ _)).mono ?_
              rintro e w5 ⟨v5, rfl, o5, b5⟩
              obtain ⟨a5, c5, rfl⟩ := row_sl o5
              obtain ⟨w6, r6, D6, g6, e6⟩ := hST.out w5 _ b5 o5
              have d0 := cell_later b5 k0
              have d1 := cell_later b5 k1
              have d2 := cell_later b5 k2
              replace o5 := hid o5
              replace b5 := hid b5
              replace D6 := hid D6
              replace g6 := hid g6
              replace e6 := hid e6
              refine hK _ _ ?_
              clear hK K
              refine wpAny_take (i := 8) (v := ?v6) rfl (by kernel_rfl) (by kernel_rfl) (by kernel_rfl) (fun _ _ _ h => h) (Or.inl ⟨by rfl, ?h6⟩) ?_
              case h6 => (intro w; go_simp; try (with_reducible rfl))
              go_simp
              refine wpAny_ready (rs := [9]) (by kernel_rfl) (by simp) ?_
              refine AllReady.cons rfl (fun K hK => ?_) ?_
              · go_simp
                refine hK _ _ ?_
                clear hK K
                refine wpAny_done (by kernel_rfl) ?_ _
                go_wp2_with fail
                exact HEnd.out w5 w6 _ b5.out D6.out g6.out
              exact AllReady.nil
            exact AllReady.nil
          exact AllReady.nil
        refine AllReady.cons rfl (fun K hK => ?_) ?_
        · go_simp
          refine hK _ _ ?_
          clear hK K
          refine wpAny_ready (rs := [4]) (by kernel_rfl) (by simp) ?_
          refine AllReady.cons rfl (fun K hK => ?_) ?_
          · go_simp
            refine hK _ _ ?_
            clear hK K
            refine wpAny_ready (rs := [5]) (by kernel_rfl) (by simp) ?_
            refine AllReady.cons rfl (fun K hK => ?_) ?_
            · go_simp
              go_wp2_with fail
              refine (HCl.out _ (Below.refl _ _)).mono ?_
              rintro e w5 ⟨v5, rfl, o5, b5⟩
              obtain ⟨a5, c5, rfl⟩ := row_sl o5
              obtain ⟨w6, r6, D6, g6, e6⟩ := hST.out w5 _ b5 o5
              have d0 := cell_later b5 k0
              have d1 := cell_later b5 k1
              have d2 := cell_later b5 k2
              replace o5 := hid o5
              replace b5 := hid b5
              replace D6 := hid D6
              replace g6 := hid g6
              replace e6 := hid e6
              refine hK _ _ ?_
              clear hK K
              refine wpAny_take (i := 8) (v := ?v7) rfl (by kernel_rfl) (by kernel_rfl) (by kernel_rfl) (fun _ _ _ h => h) (Or.inl ⟨by rfl, ?h7⟩) ?_
              case h7 => (intro w; go_simp; try (with_reducible rfl))
              go_simp
              refine wpAny_ready (rs := [9]) (by kernel_rfl) (by simp) ?_
              refine AllReady.cons rfl (fun K hK => ?_) ?_
              · go_simp
                refine hK _ _ ?_
                clear hK K
                refine wpAny_done (by kernel_rfl) ?_ _
                go_wp2_with fail
                exact HEnd.out w5 w6 _ b5.out D6.out g6.out
              exact AllReady.nil
            exact AllReady.nil
          exact AllReady.nil
        exact AllReady.nil
      refine AllReady.cons rfl (fun K hK => ?_) ?_
      · go_simp
        refine hK _ _ ?_
        clear hK K
        refine wpAny_ready (rs := [1, 5, 7]) (by kernel_rfl) (by simp) ?_
        refine AllReady.cons rfl (fun K hK => ?_) ?_
        · go_simp
          refine hK _ _ ?_
          clear hK K
          refine wpAny_ready (rs := [5, 7]) (by kernel_rfl) (by simp) ?_
          refine AllReady.cons rfl (fun K hK => ?_) ?_
          · go_simp
            go_wp2_with fail
            refine (HCl.out _ (Below.refl _ _)).mono ?_
            rintro e w5 ⟨v5, rfl, o5, b5⟩
            obtain ⟨a5, c5, rfl⟩ := row_sl o5
            obtain ⟨w6, r6, D6, g6, e6⟩ := hST.out w5 _ b5 o5
            have d0 := cell_later b5 k0
            have d1 := cell_later b5 k1
            have d2 := cell_later b5 k2
            replace o5 := hid o5
            replace b5 := hid b5
            replace D6 := hid D6
            replace g6 := hid g6
            replace e6 := hid e6
            refine hK _ _ ?_
            clear hK K
            refine wpAny_ready (rs := [7]) (by kernel_rfl) (by simp) ?_
            refine AllReady.cons rfl (fun K hK => ?_) ?_
            · go_simp
              refine hK _ _ ?_
              clear hK K
              refine wpAny_take (i := 8) (v := ?v8) rfl (by kernel_rfl) (by kernel_rfl) (by kernel_rfl) (fun _ _ _ h => h) (Or.inl ⟨by rfl, ?h8⟩) ?_
              case h8 => (intro w; go_simp; try (with_reducible rfl))
              go_simp
              refine wpAny_ready (rs := [9]) (by kernel_rfl) (by simp) ?_
              refine AllReady.cons rfl (fun K hK => ?_) ?_
              · go_simp
                refine hK _ _ ?_
                clear hK K
                refine wpAny_done (by kernel_rfl) ?_ _
                go_wp2_with fail
                exact HEnd.out w5 w6 _ b5.out D6.out g6.out
              exact AllReady.nil
            exact AllReady.nil
          refine AllReady.cons rfl (fun K hK => ?_) ?_
          · go_simp
            refine hK _ _ ?_
            clear hK K
            refine wpAny_ready (rs := [5]) (by kernel_rfl) (by simp) ?_
            refine AllReady.cons rfl (fun K hK => ?_) ?_
            · go_simp
              go_wp2_with fail
              refine (HCl.out _ (Below.refl _ _)).mono ?_
              rintro e w5 ⟨v5, rfl, o5, b5⟩
              obtain ⟨a5, c5, rfl⟩ := row_sl o5
              obtain ⟨w6, r6, D6, g6, e6⟩ := hST.out w5 _ b5 o5
              have d0 := cell_later b5 k0
              have d1 := cell_later b5 k1
              have d2 := cell_later b5 k2
              replace o5 := hid o5
              replace b5 := hid b5
              replace D6 := hid D6
              replace g6 := hid g6
              replace e6 := hid e6
              refine hK _ _ ?_
              clear hK K
              refine wpAny_take (i := 8) (v := ?v9) rfl (by kernel_rfl) (by kernel_rfl) (by kernel_rfl) (fun _ _ _ h => h) (Or.inl ⟨by rfl, ?h9⟩) ?_
              case h9 => (intro w; go_simp; try (with_reducible rfl))
              go_simp
              refine wpAny_ready (rs := [9]) (by kernel_rfl) (by simp) ?_
              refine AllReady.cons rfl (fun K hK => ?_) ?_
              · go_simp
                refine hK _ _ ?_
                clear hK K
                refine wpAny_done (by kernel_rfl) ?_ _
                go_wp2_with fail
                exact HEnd.out w5 w6 _ b5.out D6.out g6.out
              exact AllReady.nil
            exact AllReady.nil
          exact AllReady.nil
        refine AllReady.cons rfl (fun K hK => ?_) ?_
        · go_simp
          go_wp2_with fail
          refine (HCl.out _ (Below.refl _ _)).mono ?_
          rintro e w5 ⟨v5, rfl, o5, b5⟩
          obtain ⟨a5, c5, rfl⟩ := row_sl o5
          obtain ⟨w6, r6, D6, g6, e6⟩ := hST.out w5 _ b5 o5
          have d0 := cell_later b5 k0
          have d1 := cell_later b5 k1
          have d2 := cell_later b5 k2
          replace o5 := hid o5
          replace b5 := hid b5
          replace D6 := hid D6
          replace g6 := hid g6
          replace e6 := hid e6
          refine hK _ _ ?_
          clear hK K
          refine wpAny_ready (rs := [1, 7]) (by kernel_rfl) (by simp) ?_
          refine AllReady.cons rfl (fun K hK => ?_) ?_
          · go_simp
            refine hK _ _ ?_
            clear hK K
            refine wpAny_ready (rs := [7]) (by kernel_rfl) (by simp) ?_
            refine AllReady.cons rfl (fun K hK => ?_) ?_
            · go_simp
              refine hK _ _ ?_
              clear hK K
              refine wpAny_take (i := 8) (v := ?v10) rfl (by kernel_rfl) (by kernel_rfl) (by kernel_rfl) (fun _ _ _ h => h) (Or.inl ⟨by rfl, ?h10⟩) ?_
              case h10 => (intro w; go_simp; try (with_reducible rfl))
              go_simp
              refine wpAny_ready (rs := [9]) (by kernel_rfl) (by simp) ?_
              refine AllReady.cons rfl (fun K hK => ?_) ?_
              · go_simp
                refine hK _ _ ?_
                clear hK K
                refine wpAny_done (by kernel_rfl) ?_ _
                go_wp2_with fail
                exact HEnd.out w5 w6 _ b5.out D6.out g6.out
              exact AllReady.nil
            exact AllReady.nil
          refine AllReady.cons rfl (fun K hK => ?_) ?_
          · go_simp
            refine hK _ _ ?_
            clear hK K
            refine wpAny_take (i := 8) (v := ?v11) rfl (by kernel_rfl) (by kernel_rfl) (by kernel_rfl) (fun _ _ _ h => h) (Or.inl ⟨by rfl, ?h11⟩) ?_
            case h11 => (intro w; go_simp; try (with_reducible rfl))
            go_simp
            refine wpAny_ready (rs := [1]) (by kernel_rfl) (by simp) ?_
            refine AllReady.cons rfl (fun K hK => ?_) ?_
            · go_simp
              refine hK _ _ ?_
              clear hK K
              refine wpAny_ready (rs := [9]) (by kernel_rfl) (by simp) ?_
              refine AllReady.cons rfl (fun K hK => ?_) ?_
              · go_simp
                refine hK _ _ ?_
                clear hK K
                refine wpAny_done (by kernel_rfl) ?_ _
                go_wp2_with fail
                exact HEnd.out w5 w6 _ b5.out D6.out g6.out
              exact AllReady.nil
            exact AllReady.nil
          exact AllReady.nil
        refine AllReady.cons rfl (fun K hK => ?_) ?_
        · go_simp
          refine hK _ _ ?_
          clear hK K
          refine wpAny_ready (rs := [1, 5]) (by kernel_rfl) (by simp) ?_
          refine AllReady.cons rfl (fun K hK => ?_) ?_
          · go_simp
            refine hK _ _ ?_
            clear hK K
            refine wpAny_ready (rs := [5]) (by kernel_rfl) (by simp) ?_
            refine AllReady.cons rfl (fun K hK => ?_) ?_
            · go_simp
              go_wp2_with fail
              refine (HCl.out _ (Below.refl _ _)).mono ?_
              rintro e w5 ⟨v5, rfl, o5, b5⟩
              obtain ⟨a5, c5, rfl⟩ := row_sl o5
              obtain ⟨w6, r6, D6, g6, e6⟩ := hST.out w5 _ b5 o5
              have d0 := cell_later b5 k0
              have d1 := cell_later b5 k1
              have d2 := cell_later b5 k2
              replace o5 := hid o5
              replace b5 := hid b5
              replace D6 := hid D6
              replace g6 := hid g6
              replace e6 := hid e6
              refine hK _ _ ?_
              clear hK K
              refine wpAny_take (i := 8) (v := ?v12) rfl (by kernel_rfl) (by kernel_rfl) (by kernel_rfl) (fun _ _ _ h => h) (Or.inl ⟨by rfl, ?h12⟩) ?_
              case h12 => (intro w; go_simp; try (with_reducible rfl))
              go_simp
              refine wpAny_ready (rs := [9]) (by kernel_rfl) (by simp) ?_
              refine AllReady.cons rfl (fun K hK => ?_) ?_
              · go_simp
                refine hK _ _ ?_
                clear hK K
                refine wpAny_done (by kernel_rfl) ?_ _
                go_wp2_with fail
                exact HEnd.out w5 w6 _ b5.out D6.out g6.out
              exact AllReady.nil
            exact AllReady.nil
          refine AllReady.cons rfl (fun K hK => ?_) ?_
          · go_simp
            go_wp2_with fail
            refine (HCl.out _ (Below.refl _ _)).mono ?_
            rintro e w5 ⟨v5, rfl, o5, b5⟩
            obtain ⟨a5, c5, rfl⟩ := row_sl o5
            obtain ⟨w6, r6, D6, g6, e6⟩ := hST.out w5 _ b5 o5
            have d0 := cell_later b5 k0
            have d1 := cell_later b5 k1
            have d2 := cell_later b5 k2
            replace o5 := hid o5
            replace b5 := hid b5
            replace D6 := hid D6
            replace g6 := hid g6
            replace e6 := hid e6
            refine hK _ _ ?_
            clear hK K
            refine wpAny_take (i := 8) (v := ?v13) rfl (by kernel_rfl) (by kernel_rfl) (by kernel_rfl) (fun _ _ _ h => h) (Or.inl ⟨by rfl, ?h13⟩) ?_
            case h13 => (intro w; go_simp; try (with_reducible rfl))
            go_simp
            refine wpAny_ready (rs := [1]) (by kernel_rfl) (by simp) ?_
            refine AllReady.cons rfl (fun K hK => ?_) ?_
            · go_simp
              refine hK _ _ ?_
              clear hK K
              refine wpAny_ready (rs := [9]) (by kernel_rfl) (by simp) ?_
              refine AllReady.cons rfl (fun K hK => ?_) ?_
              · go_simp
                refine hK _ _ ?_
                clear hK K
                refine wpAny_done (by kernel_rfl) ?_ _
                go_wp2_with fail
                exact HEnd.out w5 w6 _ b5.out D6.out g6.out
              exact AllReady.nil
            exact AllReady.nil
          exact AllReady.nil
        exact AllReady.nil
      refine AllReady.cons rfl (fun K hK => ?_) ?_
      · go_simp
        refine hK _ _ ?_
        clear hK K
        refine wpAny_ready (rs := [1, 4]) (by kernel_rfl) (by simp) ?_
        refine AllReady.cons rfl (fun K hK => ?_) ?_
        · go_simp
          refine hK _ _ ?_
          clear hK K
          refine wpAny_ready (rs := [4]) (by kernel_rfl) (by simp) ?_
          refine AllReady.cons rfl (fun K hK => ?_) ?_
          · go_simp
            refine hK _ _ ?_
            clear hK K
            refine wpAny_ready (rs := [5]) (by kernel_rfl) (by simp) ?_
            refine AllReady.cons rfl (fun K hK => ?_) ?_
            · go_simp
              go_wp2_with fail
              refine (HCl.out _ (Below.refl _ _)).mono ?_
              rintro e w5 ⟨v5, rfl, o5, b5⟩
              obtain ⟨a5, c5, rfl⟩ := row_sl o5
              obtain ⟨w6, r6, D6, g6, e6⟩ := hST.out w5 _ b5 o5
              have d0 := cell_later b5 k0
              have d1 := cell_later b5 k1
              have d2 := cell_later b5 k2
              replace o5 := hid o5
              replace b5 := hid b5
              replace D6 := hid D6
              replace g6 := hid g6
              replace e6 := hid e6
              refine hK _ _ ?_
              clear hK K
              refine wpAny_take (i := 8) (v := ?v14) rfl (by kernel_rfl) (by kernel_rfl) (by kernel_rfl) (fun _ _ _ h => h) (Or.inl ⟨by rfl, ?h14⟩) ?_
              case h14 => (intro w; go_simp; try (with_reducible rfl))
              go_simp
              refine wpAny_ready (rs := [9]) (by kernel_rfl) (by simp) ?_
              refine AllReady.cons rfl (fun K hK => ?_) ?_
              · go_simp
                refine hK _ _ ?_
                clear hK K
                refine wpAny_done (by kernel_rfl) ?_ _
                go_wp2_with fail
                exact HEnd.out w5 w6 _ b5.out D6.out g6.out
              exact AllReady.nil
            exact AllReady.nil
          exact AllReady.nil
        refine AllReady.cons rfl (fun K hK => ?_) ?_
        · go_simp
          refine hK _ _ ?_
          clear hK K
          refine wpAny_ready (rs := [1, 5]) (by kernel_rfl) (by simp) ?_
          refine AllReady.cons rfl (fun K hK => ?_) ?_
          · go_simp
            refine hK _ _ ?_
            clear hK K
            refine wpAny_ready (rs := [5]) (by kernel_rfl) (by simp) ?_
            refine AllReady.cons rfl (fun K hK => ?_) ?_
            · go_simp
              go_wp2_with fail
              refine (HCl.out _ (Below.refl _ _)).mono ?_
              rintro e w5 ⟨v5, rfl, o5, b5⟩
              obtain ⟨a5, c5, rfl⟩ := row_sl o5
              obtain ⟨w6, r6, D6, g6, e6⟩ := hST.out w5 _ b5 o5
              have d0 := cell_later b5 k0
              have d1 := cell_later b5 k1
              have d2 := cell_later b5 k2
              replace o5 := hid o5
              replace b5 := hid b5
              replace D6 := hid D6
              replace g6 := hid g6
              replace e6 := hid e6
              refine hK _ _ ?_
              clear hK K
              refine wpAny_take (i := 8) (v := ?v15) rfl (by kernel_rfl) (by kernel_rfl) (by kernel_rfl) (fun _ _ _ h => h) (Or.inl ⟨by rfl, ?h15⟩) ?_
              case h15 => (intro w; go_simp; try (with_reducible rfl))
              go_simp
              refine wpAny_ready (rs := [9]) (by kernel_rfl) (by simp) ?_
              refine AllReady.cons rfl (fun K hK => ?_) ?_
              · go_simp
                refine hK _ _ ?_
                clear hK K
                refine wpAny_done (by kernel_rfl) ?_ _
                go_wp2_with fail
                exact HEnd.out w5 w6 _ b5.out D6.out g6.out
              exact AllReady.nil
            exact AllReady.nil
          refine AllReady.cons rfl (fun K hK => ?_) ?_
          · go_simp
            go_wp2_with fail
            refine (HCl.out _ (Below.refl _ _)).mono ?_
            rintro e w5 ⟨v5, rfl, o5, b5⟩
            obtain ⟨a5, c5, rfl⟩ := row_sl o5
            obtain ⟨w6, r6, D6, g6, e6⟩ := hST.out w5 _ b5 o5
            have d0 := cell_later b5 k0
            have d1 := cell_later b5 k1
            have d2 := cell_later b5 k2
            replace o5 := hid o5
            replace b5 := hid b5
            replace D6 := hid D6
            replace g6 := hid g6
            replace e6 := hid e6
            refine hK _ _ ?_
            clear hK K
            refine wpAny_take (i := 8) (v := ?v16) rfl (by kernel_rfl) (by kernel_rfl) (by kernel_rfl) (fun _ _ _ h => h) (Or.inl ⟨by rfl, ?h16⟩) ?_
            case h16 => (intro w; go_simp; try (with_reducible rfl))
            go_simp
            refine wpAny_ready (rs := [1]) (by kernel_rfl) (by simp) ?_
            refine AllReady.cons rfl (fun K hK => ?_) ?_
            · go_simp
              refine hK _ _ ?_
              clear hK K
              refine wpAny_ready (rs := [9]) (by kernel_rfl) (by simp) ?_
              refine AllReady.cons rfl (fun K hK => ?_) ?_
              · go_simp
                refine hK _ _ ?_
                clear hK K
                refine wpAny_done (by kernel_rfl) ?_ _
                go_wp2_with fail
                exact HEnd.out w5 w6 _ b5.out D6.out g6.out
              exact AllReady.nil
            exact AllReady.nil
          exact AllReady.nil
        exact AllReady.nil
      exact AllReady.nil
end Go.Proofs.Ytgffojafdjcdoaa.Cl
