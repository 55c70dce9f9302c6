/- MergeNobody, walked. -/
import Derived.Test.YtgjodfaliajlgaaGn9
import Derived.Test.YtgjodfaliajlgaaNo9
import Derived.Test.YtgjodfaliajlgaaMr9
namespace Go.Proofs.Ytgjodfaliajlgaa.Mn9
open Go.ChangeShapes Go.WideShapes Go.ChangeAt Go.RowKit
open Go.Sort (grow)
open Go.Proofs.Ytgjodfaliajlgaa.Gr hiding hid addr_add
open Go.Proofs.Ytgjodfaliajlgaa.Ac
open Go.Proofs.Ytgjodfaliajlgaa.Ik
open Go.Proofs.Ytgjodfaliajlgaa.Ee
open Go.Proofs.Ytgjodfaliajlgaa.Sd hiding below_grown
open Go.Proofs.Ytgjodfaliajlgaa.Rsd
open Go.Proofs.Ytgjodfaliajlgaa.Ew
open Go.Proofs.Ytgjodfaliajlgaa.Hp
open Go.Proofs.Ytgjodfaliajlgaa.Hm hiding hv
open Go.Proofs.Ytgjodfaliajlgaa.Ls9 (Lb c4 hr hv hb)
open Go.Proofs.Ytgjodfaliajlgaa.Lm9 (Lc newlist_any)
open Go.Proofs.Ytgjodfaliajlgaa.Gc9
open Go.Proofs.Ytgjodfaliajlgaa.Gb9
open Go.Proofs.Ytgjodfaliajlgaa.Gd9
open Go.Proofs.Ytgjodfaliajlgaa.Gn9
open Go.Proofs.Ytgjodfaliajlgaa.No9
set_option linter.unusedVariables false
set_option linter.unusedSimpArgs false

theorem ne_zero (w : World) : (binOp BinOp.neq 43 (.agg #[.string ⟨#[]⟩, .int .u64 0, .int .i64 0, .string ⟨#[]⟩]) (.agg #[.string ⟨#[]⟩, .int .u64 0, .int .i64 0, .string ⟨#[]⟩])).run Try.prog w = .ok (.bool false) w := by kernel_rfl
theorem text_self (a : ByteArray) : (a.toList == a.toList) = true := beq_self_eq_true _
set_option maxHeartbeats 1000000 in
theorem run_eq (a : ByteArray) (s c : Int) (v : ByteArray) (w : World) : (binOp .eql 43 (.agg #[.string a, .int .u64 s, .int .i64 c, .string v]) (.agg #[.string a, .int .u64 s, .int .i64 c, .string v])).run Try.prog w = .ok (.bool true) w := by
  have h1 := text_self a
  have h2 := text_self v
  go_simp
  try rfl
set_option maxHeartbeats 2000000 in
set_option maxRecDepth 20000 in
theorem nobody_any (a : Option Addr) (n c : Nat) (xs : List E) (mk : Int) (k : ByteArray) (s cc : Int) (w : World) (H : Ents w a n c xs) (hbig : n * 48 ≤ 140737488355328) :
    Calls Try.prog 6 #[.slice a n c, .agg #[.int .i64 mk, .string k, .int .u64 s, .int .i64 cc]] w fun e w' => e = .returned (.bool true) ∧ Below w.heap.size w w' := by
  have hne := ne_zero
  obtain ⟨b3, hb3⟩ : ∃ g, g = w.heap.size := ⟨_, rfl⟩
  obtain ⟨W1, hW1⟩ : ∃ W, W = w.alloc (.cells #[.int .i64 mk, .string k, .int .u64 s, .int .i64 cc] 35) := ⟨_, rfl⟩
  obtain ⟨W2, hW2⟩ : ∃ W, W = W1.alloc (.cells #[.slice none 0 0, .slice none 0 0, .bool false] 61) := ⟨_, rfl⟩
  obtain ⟨W3, hW3⟩ : ∃ W, W = W2.alloc (.cells #[.pointer none, .pointer (some ⟨b3 + 1, 0, none⟩)] 24) := ⟨_, rfl⟩
  have B1 : Below w.heap.size w W1 := by rw [hW1]; exact box_below _ _
  have B2 : Below W1.heap.size W1 W2 := by rw [hW2]; exact box_below _ _
  have B3 : Below W2.heap.size W2 W3 := by rw [hW3]; exact box_below _ _
  have s1 : W1.heap.size = b3 + 1 := by rw [hW1, hb3]; simp
  have s2 : W2.heap.size = b3 + 2 := by rw [hW2]; simp; omega
  have k1 : W1.heap[b3]? = some (.cells #[.int .i64 mk, .string k, .int .u64 s, .int .i64 cc] 35) := by rw [hW1, hb3]; exact new_at _ _
  have k2 : W2.heap[b3 + 1]? = some (.cells #[.slice none 0 0, .slice none 0 0, .bool false] 61) := by rw [hW2, ← s1]; exact new_at _ _
  have k3 : W3.heap[b3 + 2]? = some (.cells #[.pointer none, .pointer (some ⟨b3 + 1, 0, none⟩)] 24) := by rw [hW3, ← s2]; exact new_at _ _
  have B23 : Below W1.heap.size W1 W3 := Below.up B2 B3
  have B13 : Below w.heap.size w W3 := Below.up B1 B23
  have k13 := (B23.block b3 (blk_lt k1)).trans k1
  have k23 := (B3.block (b3 + 1) (blk_lt k2)).trans k2
  have KEEP : Hid (∀ W, Below W3.heap.size W3 W → (W.cell? ⟨b3, 0, none⟩ = some (.int .i64 mk) ∧ W.cell? ⟨b3, 1, none⟩ = some (.string k) ∧ W.cell? ⟨b3, 2, none⟩ = some (.int .u64 s) ∧ W.cell? ⟨b3, 3, none⟩ = some (.int .i64 cc)) ∧ (W.cell? ⟨b3 + 2, 0, none⟩ = some (.pointer none) ∧ W.cell? ⟨b3 + 2, 1, none⟩ = some (.pointer (some ⟨b3 + 1, 0, none⟩))) ∧ None W (.pointer (some ⟨b3 + 1, 0, none⟩))) := by
    intro W b
    have q1 := (b.block b3 (blk_lt k13)).trans k13
    have q2 := (b.block (b3 + 1) (blk_lt k23)).trans k23
    have q3 := (b.block (b3 + 2) (blk_lt k3)).trans k3
    exact ⟨⟨cell_of q1 0 _ rfl, cell_of q1 1 _ rfl, cell_of q1 2 _ rfl, cell_of q1 3 _ rfl⟩, ⟨cell_of q3 0 _ rfl, cell_of q3 1 _ rfl⟩, .inr ⟨_, rfl, cell_of q2 0 _ rfl⟩⟩
  replace B13 := hid B13
  replace hW1 := hid hW1
  replace hW2 := hid hW2
  replace hW3 := hid hW3
  replace hb3 := hid hb3
  replace H := hid H
  replace hbig := hid hbig
  clear B1 B2 B3 B23 s1 s2 k1 k2 k3 k13 k23
  go_enter Try.func6, Try.ntmps6
  go_wp2_with fail
  rw [← hb3.out, ← hW1.out, ← hW2.out, ← hW3.out]
  go_loopw [23] (fun iv wr => ∃ (i : Nat), iv = .int .i64 (i : Int) ∧ i ≤ 2 ∧ Hid (Below W3.heap.size W3 wr)) (fun iv _ => 2 - (intOf iv).toNat)
  case atStart => exact ⟨0, rfl, by omega, Below.refl _ _⟩
  case round =>
    obtain ⟨i, rfl, hi, HB⟩ := hrel
    have h012 : i = 0 ∨ i = 1 ∨ i = 2 := by omega
    rcases h012 with rfl | rfl | rfl
    · obtain ⟨⟨q0, q1, q2, q3⟩, ⟨q4, q5⟩, -⟩ := KEEP.out wr HB.out
      have HC := hid (moved_none (.pointer none) mk k s cc wr (.inl rfl))
      have HD := hid (fun W => here_none (.pointer none) W (.inl rfl))
      unfold c4 ze at HD
      dsimp only at HD
      go_wp2_with fail
      refine HC.out.mono ?_
      rintro e w1 ⟨bb, rfl, b1⟩
      replace b1 := hid b1
      clear q0 q1 q2 q3 q4 q5 HC
      go_wp2_with fail
      refine (HD.out _).mono ?_
      rintro e w2 ⟨rfl, b2⟩
      have b3' : Hid (∀ o, Below W3.heap.size W3 (w2.alloc o)) := fun o => Below.up (Below.up HB.out b1.out) (b2.alloc b2.size o)
      clear b2 b1 HD HB
      go_wp2_with fail
      exact ⟨⟨1, rfl, by omega, b3'.out _⟩, by simp [intOf]⟩
    · obtain ⟨⟨q0, q1, q2, q3⟩, ⟨q4, q5⟩, HN⟩ := KEEP.out wr HB.out
      have HC := hid (moved_none (.pointer (some ⟨b3 + 1, 0, none⟩)) mk k s cc wr HN)
      have HD := hid (fun W h => here_none (.pointer (some ⟨b3 + 1, 0, none⟩)) W h)
      have HFr := hid (fun W h => from_none (.pointer (some ⟨b3 + 1, 0, none⟩)) W h)
      unfold c4 ze at HD
      dsimp only at HD
      replace HN := hid HN
      go_wp2_with fail
      refine HC.out.mono ?_
      rintro e w1 ⟨bb, rfl, b1⟩
      have HN1 := hid (HN.out.later b1)
      replace b1 := hid b1
      clear q0 q1 q2 q3 q4 q5 HC HN
      go_wp2_with fail
      refine (HD.out _ HN1.out).mono ?_
      rintro e w2 ⟨rfl, b2⟩
      have b3' : Hid (∀ o, Below W3.heap.size W3 (w2.alloc o)) := fun o => Below.up (Below.up HB.out b1.out) (b2.alloc b2.size o)
      have HF2 : Hid (∀ o, None (w2.alloc o) (.pointer (some ⟨b3 + 1, 0, none⟩))) := fun o => HN1.out.later (b2.alloc b2.size o)
      clear b2 b1 HD HB HN1
      go_wp2_with fail
      refine (HFr.out _ (HF2.out _)).mono ?_
      rintro e w3 ⟨rfl, rfl⟩
      go_wp2_with fail
      refine (HFr.out _ (HF2.out _)).mono ?_
      rintro e w3 ⟨rfl, rfl⟩
      go_wp2_with fail
      exact ⟨⟨2, rfl, by omega, b3'.out _⟩, by simp [intOf]⟩
    · obtain ⟨V1, hV1⟩ : ∃ W, W = wr.alloc (.cells #[.slice none 0 0, .int .i64 0] 65) := ⟨_, rfl⟩
      obtain ⟨l0, hl0⟩ : ∃ g, g = wr.heap.size := ⟨_, rfl⟩
      obtain ⟨V2, hV2⟩ : ∃ W, W = V1.alloc (.cells #[.pointer none, .pointer (some ⟨l0, 0, none⟩)] 40) := ⟨_, rfl⟩
      have D1 : Below wr.heap.size wr V1 := by rw [hV1]; exact box_below _ _
      have D2 : Below V1.heap.size V1 V2 := by rw [hV2]; exact box_below _ _
      have s1 : V1.heap.size = l0 + 1 := by rw [hV1, hl0]; simp
      have s2 : V2.heap.size = l0 + 2 := by rw [hV2]; simp; omega
      have k1 : V1.heap[l0]? = some (.cells #[.slice none 0 0, .int .i64 0] 65) := by rw [hV1, hl0]; exact new_at _ _
      have k2 : V2.heap[l0 + 1]? = some (.cells #[.pointer none, .pointer (some ⟨l0, 0, none⟩)] 40) := by rw [hV2, ← s1]; exact new_at _ _
      have k12 := (D2.block l0 (blk_lt k1)).trans k1
      have E1 : Below W3.heap.size W3 V2 := Below.up HB.out (Below.up D1 D2)
      obtain ⟨⟨q0, q1, q2, q3⟩, -, -⟩ := KEEP.out V2 E1
      have hb3l : b3 ≠ l0 := by have h : b3 < wr.heap.size := block_lt_of_cell (KEEP.out wr HB.out).1.1; omega
      have hl0w : w.heap.size ≤ l0 := by have := HB.out.size; have := B13.out.size; omega
      have NL0 : Hid (Nl V2 (.pointer (some ⟨l0, 0, none⟩))) := .inr ⟨l0, 0, rfl, ⟨k12, rfl, rfl⟩, by omega, by omega⟩
      have K2 : Hid (∀ W, Fp (· = l0) V2 W → (W.cell? ⟨b3, 1, none⟩ = some (.string k) ∧ W.cell? ⟨b3, 2, none⟩ = some (.int .u64 s) ∧ W.cell? ⟨b3, 3, none⟩ = some (.int .i64 cc)) ∧ (W.cell? ⟨l0 + 1, 0, none⟩ = some (.pointer none) ∧ W.cell? ⟨l0 + 1, 1, none⟩ = some (.pointer (some ⟨l0, 0, none⟩)))) := by
        intro W f
        have h1 := f.block b3 (block_lt_of_cell q0) hb3l
        have h2 := f.block (l0 + 1) (blk_lt k2) (by omega)
        exact ⟨⟨(World.cell?_of_block (a := ⟨b3, 1, none⟩) h1).trans q1, (World.cell?_of_block (a := ⟨b3, 2, none⟩) h1).trans q2, (World.cell?_of_block (a := ⟨b3, 3, none⟩) h1).trans q3⟩, cell_of (h2.trans k2) 0 _ rfl, cell_of (h2.trans k2) 1 _ rfl⟩
      have BV : Hid (∀ W, Fp (· = l0) V2 W → Below w.heap.size w W) := by
        intro W f
        have h1 : Below w.heap.size w V2 := Below.up B13.out E1
        exact h1.trans (f.base (base := w.heap.size) h1.size (fun j hj => by rw [hj]; exact hl0w))
      have hb3v : Hid (b3 < V2.heap.size) := block_lt_of_cell q0
      have hl0v : Hid (l0 < V2.heap.size) := by show _ < _; omega
      have BW : Hid (∀ W, Fp (· = l0) V2 W → b3 < W.heap.size ∧ l0 < W.heap.size ∧ b3 ≠ l0) := fun W f => ⟨by have := f.size; have := hb3v.out; omega, by have := f.size; have := hl0v.out; omega, hb3l⟩
      replace hV1 := hid hV1
      replace hV2 := hid hV2
      replace hl0 := hid hl0
      clear D1 D2 s1 s2 k1 k2 k12 E1 q0 q1 q2 q3 hl0w KEEP HB
      replace hb3l := hid hb3l
      go_wp2_with fail
      rw [← hl0.out, ← hV1.out, ← hV2.out]
      rw [show ((2 : Nat) : Int) = 2 from rfl]
      go_loopw [66] (fun iv wr2 => ∃ (i : Nat), iv = .int .i64 (i : Int) ∧ i ≤ 2 ∧ Hid (Fp (· = l0) V2 wr2) ∧ (i ≤ 1 → Hid (Nl wr2 (.pointer (some ⟨l0, 0, none⟩))))) (fun iv _ => 2 - (intOf iv).toNat)
      case atStart => exact ⟨0, rfl, by omega, Fp.refl _ _, fun _ => NL0⟩
      case round =>
        obtain ⟨i, rfl, hi, HF2, HR2⟩ := hrel
        have h012 : i = 0 ∨ i = 1 ∨ i = 2 := by omega
        rcases h012 with rfl | rfl | rfl
        · have HNl : Nl wr (.pointer none) := .inl rfl
          obtain ⟨⟨q1, q2, q3⟩, q4, q5⟩ := K2.out wr HF2.out
          have hbw := BW.out wr HF2.out
          have HH := hid (nl_Here (.pointer none) wr HNl)
          unfold c4 ze at HH
          dsimp only at HH
          have C1 := hid (fun W h => nl_First (.pointer none) W h)
          have C2 := hid (fun W h => nl_Last (.pointer none) W h)
          have C3 := hid (fun W h => nl_Seek (.pointer none) k s cc W h)
          have C4 := hid (fun W h => nl_Next (.pointer none) W h)
          have C5 := hid (fun W h => nl_Prev (.pointer none) W h)
          have HNl0 := hid HNl
          have hfin : Hid (∀ w2 W, Below wr.heap.size wr w2 → Fp (Pv (.pointer none)) w2 W → Fp (· = l0) V2 W) := fun w2 W b f => (HF2.out.below b).tr (f.wide (fun j _ h => .inl (by first | (have h : _ = _ := h; injection h with h; injection h with h; injection h with h; exact h.symm) | (have h : _ = _ := h; cases h; rfl) | (cases h))))
          have NK : Hid (∀ w2 W, Below wr.heap.size wr w2 → Fp (Pv (.pointer none)) w2 W → Hid (Nl W (.pointer (some ⟨l0, 0, none⟩)))) := fun w2 W b f => by
            have h := ((HR2 (by omega)).out).later b
            have h0 : Below w2.heap.size w2 W := f.base (Nat.le_refl _) (fun j hj => by unfold Pv at hj; cases hj)
            exact h.later h0
          have kk := hid (⟨q1, q2, q3⟩ : wr.cell? ⟨b3, 1, none⟩ = some (.string k) ∧ wr.cell? ⟨b3, 2, none⟩ = some (.int .u64 s) ∧ wr.cell? ⟨b3, 3, none⟩ = some (.int .i64 cc))
          replace hbw := hid hbw
          clear HNl q1 q2 q3
          go_wp2_with fail
          refine HH.out.mono ?_
          rintro e w2 ⟨rfl, b2⟩
          obtain ⟨Wx, hWx⟩ : ∃ W, W = w2.alloc (.cells #[.string ⟨#[]⟩, .int .u64 0, .int .i64 0, .string ⟨#[]⟩] 43) := ⟨_, rfl⟩
          obtain ⟨gx, hgx⟩ : ∃ g, g = w2.heap.size := ⟨_, rfl⟩
          have kx : Wx.heap[gx]? = some (.cells #[.string ⟨#[]⟩, .int .u64 0, .int .i64 0, .string ⟨#[]⟩] 43) := by rw [hWx, hgx]; exact new_at _ _
          have bx : Below wr.heap.size wr Wx := by rw [hWx]; exact b2.alloc b2.size _
          have nx := hid (HNl0.out.later bx)
          have hgx2 : wr.heap.size ≤ gx := by rw [hgx]; exact b2.size
          have KC : Hid (∀ W, Fp (Pv (.pointer none)) Wx W → (W.cell? ⟨b3, 1, none⟩ = some (.string k) ∧ W.cell? ⟨b3, 2, none⟩ = some (.int .u64 s) ∧ W.cell? ⟨b3, 3, none⟩ = some (.int .i64 cc)) ∧ (W.cell? ⟨gx, 0, none⟩ = some (.string ⟨#[]⟩) ∧ W.cell? ⟨gx, 1, none⟩ = some (.int .u64 0) ∧ W.cell? ⟨gx, 2, none⟩ = some (.int .i64 0) ∧ W.cell? ⟨gx, 3, none⟩ = some (.string ⟨#[]⟩))) := by
            intro W f
            obtain ⟨h1, h2, h3⟩ := hbw.out
            have p1 : ¬ Pv (.pointer none) b3 := by intro h; unfold Pv at h; first | (cases h; done) | (injection h with h; injection h with h; injection h with h; exact h3 h.symm)
            have p2 : ¬ Pv (.pointer none) gx := by intro h; unfold Pv at h; first | (cases h; done) | (injection h with h; injection h with h; injection h with h; omega)
            have r1 := (f.block b3 (by have := bx.size; omega) p1).trans (bx.block b3 h1)
            have r2 := (f.block gx (blk_lt kx) p2).trans kx
            exact ⟨⟨(World.cell?_of_block (a := ⟨b3, 1, none⟩) r1).trans kk.out.1, (World.cell?_of_block (a := ⟨b3, 2, none⟩) r1).trans kk.out.2.1, (World.cell?_of_block (a := ⟨b3, 3, none⟩) r1).trans kk.out.2.2⟩, cell_of r2 0 _ rfl, cell_of r2 1 _ rfl, cell_of r2 2 _ rfl, cell_of r2 3 _ rfl⟩
          have bx2 := hid bx
          replace hWx := hid hWx
          replace hgx := hid hgx
          clear b2 kx bx hgx2 HH q4 q5
          go_wp2_with fail
          try rw [← hWx.out, ← hgx.out]
          try go_wp2_with fail
          refine (C1.out _ nx.out).mono ?_
          rintro e x1 ⟨rfl, n1, f1⟩
          replace n1 := hid n1
          replace f1 := hid f1
          clear C1
          go_wp2_with fail
          refine (C2.out _ n1.out).mono ?_
          rintro e x2 ⟨rfl, n2, f2⟩
          have g2 := hid (f1.out.tr (f2.wide (fun j _ h => .inl h)))
          replace n2 := hid n2
          obtain ⟨⟨y1, y2, y3⟩, -⟩ := KC.out x2 g2.out
          clear C2 f2 n1
          go_wp2_with fail
          refine (C3.out _ n2.out).mono ?_
          rintro e x3 ⟨rfl, n3, f3⟩
          have g3 := hid (g2.out.tr (f3.wide (fun j _ h => .inl h)))
          replace n3 := hid n3
          clear C3 f3 n2 y1 y2 y3 g2 f1
          go_wp2_with fail
          refine (C4.out _ n3.out).mono ?_
          rintro e x4 ⟨rfl, n4, f4⟩
          have g4 := hid (g3.out.tr (f4.wide (fun j _ h => .inl h)))
          replace n4 := hid n4
          clear C4 f4 n3 g3
          go_wp2_with fail
          refine (C5.out _ n4.out).mono ?_
          rintro e x5 ⟨rfl, n5, f5⟩
          have g5 := hid (g4.out.tr (f5.wide (fun j _ h => .inl h)))
          obtain ⟨-, y1, y2, y3, y4⟩ := KC.out x5 g5.out
          have hF5 := hid (hfin.out Wx x5 bx2.out g5.out)
          clear C5 f5 n4 g4 n5 KC hfin
          go_wp2_with fail
          go_roundw
          case rel => exact ⟨1, by first | rfl | go_num, by omega, hF5.out, fun _ => NK.out Wx x5 bx2.out g5.out⟩
          case measure => simp [intOf]
        · have HNl : Nl wr (.pointer (some ⟨l0, 0, none⟩)) := (HR2 (by omega)).out
          obtain ⟨⟨q1, q2, q3⟩, q4, q5⟩ := K2.out wr HF2.out
          have hbw := BW.out wr HF2.out
          have HH := hid (nl_Here (.pointer (some ⟨l0, 0, none⟩)) wr HNl)
          unfold c4 ze at HH
          dsimp only at HH
          have C1 := hid (fun W h => nl_First (.pointer (some ⟨l0, 0, none⟩)) W h)
          have C2 := hid (fun W h => nl_Last (.pointer (some ⟨l0, 0, none⟩)) W h)
          have C3 := hid (fun W h => nl_Seek (.pointer (some ⟨l0, 0, none⟩)) k s cc W h)
          have C4 := hid (fun W h => nl_Next (.pointer (some ⟨l0, 0, none⟩)) W h)
          have C5 := hid (fun W h => nl_Prev (.pointer (some ⟨l0, 0, none⟩)) W h)
          have HNl0 := hid HNl
          have hfin : Hid (∀ w2 W, Below wr.heap.size wr w2 → Fp (Pv (.pointer (some ⟨l0, 0, none⟩))) w2 W → Fp (· = l0) V2 W) := fun w2 W b f => (HF2.out.below b).tr (f.wide (fun j _ h => .inl (by first | (have h : _ = _ := h; injection h with h; injection h with h; injection h with h; exact h.symm) | (have h : _ = _ := h; cases h; rfl) | (cases h))))
          have kk := hid (⟨q1, q2, q3⟩ : wr.cell? ⟨b3, 1, none⟩ = some (.string k) ∧ wr.cell? ⟨b3, 2, none⟩ = some (.int .u64 s) ∧ wr.cell? ⟨b3, 3, none⟩ = some (.int .i64 cc))
          replace hbw := hid hbw
          clear HNl q1 q2 q3
          go_wp2_with fail
          refine HH.out.mono ?_
          rintro e w2 ⟨rfl, b2⟩
          obtain ⟨Wx, hWx⟩ : ∃ W, W = w2.alloc (.cells #[.string ⟨#[]⟩, .int .u64 0, .int .i64 0, .string ⟨#[]⟩] 43) := ⟨_, rfl⟩
          obtain ⟨gx, hgx⟩ : ∃ g, g = w2.heap.size := ⟨_, rfl⟩
          have kx : Wx.heap[gx]? = some (.cells #[.string ⟨#[]⟩, .int .u64 0, .int .i64 0, .string ⟨#[]⟩] 43) := by rw [hWx, hgx]; exact new_at _ _
          have bx : Below wr.heap.size wr Wx := by rw [hWx]; exact b2.alloc b2.size _
          have nx := hid (HNl0.out.later bx)
          have hgx2 : wr.heap.size ≤ gx := by rw [hgx]; exact b2.size
          have KC : Hid (∀ W, Fp (Pv (.pointer (some ⟨l0, 0, none⟩))) Wx W → (W.cell? ⟨b3, 1, none⟩ = some (.string k) ∧ W.cell? ⟨b3, 2, none⟩ = some (.int .u64 s) ∧ W.cell? ⟨b3, 3, none⟩ = some (.int .i64 cc)) ∧ (W.cell? ⟨gx, 0, none⟩ = some (.string ⟨#[]⟩) ∧ W.cell? ⟨gx, 1, none⟩ = some (.int .u64 0) ∧ W.cell? ⟨gx, 2, none⟩ = some (.int .i64 0) ∧ W.cell? ⟨gx, 3, none⟩ = some (.string ⟨#[]⟩))) := by
            intro W f
            obtain ⟨h1, h2, h3⟩ := hbw.out
            have p1 : ¬ Pv (.pointer (some ⟨l0, 0, none⟩)) b3 := by intro h; unfold Pv at h; first | (cases h; done) | (injection h with h; injection h with h; injection h with h; exact h3 h.symm)
            have p2 : ¬ Pv (.pointer (some ⟨l0, 0, none⟩)) gx := by intro h; unfold Pv at h; first | (cases h; done) | (injection h with h; injection h with h; injection h with h; omega)
            have r1 := (f.block b3 (by have := bx.size; omega) p1).trans (bx.block b3 h1)
            have r2 := (f.block gx (blk_lt kx) p2).trans kx
            exact ⟨⟨(World.cell?_of_block (a := ⟨b3, 1, none⟩) r1).trans kk.out.1, (World.cell?_of_block (a := ⟨b3, 2, none⟩) r1).trans kk.out.2.1, (World.cell?_of_block (a := ⟨b3, 3, none⟩) r1).trans kk.out.2.2⟩, cell_of r2 0 _ rfl, cell_of r2 1 _ rfl, cell_of r2 2 _ rfl, cell_of r2 3 _ rfl⟩
          have bx2 := hid bx
          replace hWx := hid hWx
          replace hgx := hid hgx
          clear b2 kx bx hgx2 HH q4 q5
          go_wp2_with fail
          try rw [← hWx.out, ← hgx.out]
          try go_wp2_with fail
          refine (C1.out _ nx.out).mono ?_
          rintro e x1 ⟨rfl, n1, f1⟩
          replace n1 := hid n1
          replace f1 := hid f1
          clear C1
          go_wp2_with fail
          refine (C2.out _ n1.out).mono ?_
          rintro e x2 ⟨rfl, n2, f2⟩
          have g2 := hid (f1.out.tr (f2.wide (fun j _ h => .inl h)))
          replace n2 := hid n2
          obtain ⟨⟨y1, y2, y3⟩, -⟩ := KC.out x2 g2.out
          clear C2 f2 n1
          go_wp2_with fail
          refine (C3.out _ n2.out).mono ?_
          rintro e x3 ⟨rfl, n3, f3⟩
          have g3 := hid (g2.out.tr (f3.wide (fun j _ h => .inl h)))
          replace n3 := hid n3
          clear C3 f3 n2 y1 y2 y3 g2 f1
          go_wp2_with fail
          refine (C4.out _ n3.out).mono ?_
          rintro e x4 ⟨rfl, n4, f4⟩
          have g4 := hid (g3.out.tr (f4.wide (fun j _ h => .inl h)))
          replace n4 := hid n4
          clear C4 f4 n3 g3
          go_wp2_with fail
          refine (C5.out _ n4.out).mono ?_
          rintro e x5 ⟨rfl, n5, f5⟩
          have g5 := hid (g4.out.tr (f5.wide (fun j _ h => .inl h)))
          obtain ⟨-, y1, y2, y3, y4⟩ := KC.out x5 g5.out
          have hF5 := hid (hfin.out Wx x5 bx2.out g5.out)
          clear C5 f5 n4 g4 n5 KC hfin
          go_wp2_with fail
          go_roundw
          case rel => exact ⟨2, by first | rfl | go_num, by omega, hF5.out, fun h => absurd h (by omega)⟩
          case measure => simp [intOf]
        · clear HR2
          have Bw := BV.out wr HF2.out
          have HL := hid (newlist_any a n c xs wr (H.out.later Bw) hbig.out)
          have hxl : Hid (xs.length = n) := H.out.1
          have HEw : Hid (Ents wr a n c xs) := H.out.later Bw
          replace Bw := hid Bw
          clear BV BW K2 NL0 HF2 hb3v hl0v hb3l H
          go_wp2_with fail
          refine HL.out.mono ?_
          rintro e w4 ⟨g, ga, rfl, hg, hga, L4, b4⟩
          obtain ⟨V4, hV4⟩ : ∃ W, W = w4.alloc (.cells #[.nilIface, .iface 40 (.pointer (some ⟨g, 0, none⟩)), .nilIface] 75) := ⟨_, rfl⟩
          obtain ⟨gq, hgq⟩ : ∃ g, g = w4.heap.size := ⟨_, rfl⟩
          have c4' : Below w4.heap.size w4 V4 := by rw [hV4]; exact box_below _ _
          have kq : V4.heap[gq]? = some (.cells #[.nilIface, .iface 40 (.pointer (some ⟨g, 0, none⟩)), .nilIface] 75) := by rw [hV4, hgq]; exact new_at _ _
          have L5 := L4.later c4'
          have hS : eS.Sl V4 (some ⟨gq, 0, none⟩) 3 3 [zs, ⟨false, g, ga, n, srtE xs⟩, zs] := by
            refine ⟨rfl, Nat.le_refl _, fun e => (by cases e), fun _ _ => trivial, fun b o p hp hl => ?_⟩
            injection hp with hp; injection hp with e1 e2 e3; subst e1 e2 e3
            refine ⟨rfl, fun i hi j u hu => ?_⟩
            have hj : j = 0 := by
              have := (List.getElem?_eq_some_iff.1 hu).1
              rw [eS.len] at this
              have e1 : eS.k = 1 := rfl
              omega
            subst hj
            have hi3 : i = 0 ∨ i = 1 ∨ i = 2 := by omega
            rcases hi3 with rfl | rfl | rfl <;> (have hu2 := hu; simp [eS, Src.val, zs] at hu2; subst hu2; exact cell_of kq _ _ rfl)
          have HNW := hid (new_any (some ⟨gq, 0, none⟩) 3 3 _ V4 hS (by omega) (by omega))
          have hgl := L5.b.lt
          have hgal := L5.r.lt
          replace L5 := hid L5
          have b5 : Hid (Below wr.heap.size wr V4) := Below.up b4 c4'
          replace hV4 := hid hV4
          replace hgq := hid hgq
          replace hgl := hid hgl
          replace hgal := hid hgal
          have hgr : Hid (wr.heap.size ≤ g) := hg
          clear L4 b4 c4' kq hS hg hga HL
          go_wp2_with fail
          rw [← hgq.out, ← hV4.out]
          refine HNW.out.mono ?_
          rintro e w6 ⟨gm, gs, cs, rfl, hgm, hgs, hne2, M6, b6⟩
          obtain ⟨w5, hw5⟩ : ∃ W, W = V4 := ⟨_, rfl⟩
          have L6 := L5.out.later b6
          have hO : Own w6 [zs, ⟨false, g, ga, n, srtE xs⟩, zs] (fun f => if f = 1 then -1 else 0) := by
            refine ⟨fun f h1 h2 => ?_, fun f h f1 h1 f2 h2 => ?_, fun f h1 h2 => ?_⟩
            · have h3 : f = 0 ∨ f = 1 ∨ f = 2 := by simp at h1; omega
              rcases h3 with rfl | rfl | rfl
              · cases h2
              · exact L6
              · cases h2
            · have h3 : f = 0 ∨ f = 1 ∨ f = 2 := by simp at f1; omega
              have h4 : h = 0 ∨ h = 1 ∨ h = 2 := by simp at h1; omega
              rcases h3 with rfl | rfl | rfl
              · cases f2
              · rcases h4 with rfl | rfl | rfl
                · cases h2
                · exact ⟨fun e => absurd rfl e, fun e => L6.ne e.symm⟩
                · cases h2
              · cases f2
            · have h3 : f = 0 ∨ f = 1 ∨ f = 2 := by simp at h1; omega
              rcases h3 with rfl | rfl | rfl
              · cases h2
              · refine ⟨by simp, by simp <;> omega, ?_⟩
                show n ≤ _
                have := hbig.out
                omega
              · cases h2
          have hmine : ∀ b, Mine [zs, ⟨false, g, ga, n, srtE xs⟩, zs] b → b = g := by
            rintro b ⟨f, h1, h2, h3⟩
            have h4 : f = 0 ∨ f = 1 ∨ f = 2 := by simp at h1; omega
            rcases h4 with rfl | rfl | rfl
            · cases h2
            · exact h3
            · cases h2
          have hhd : hds [zs, ⟨false, g, ga, n, srtE xs⟩, zs] (fun _ => 0) 3 = hd 1 ⟨false, g, ga, n, srtE xs⟩ 0 := by
            show (([] ++ hd 0 zs 0) ++ hd 1 ⟨false, g, ga, n, srtE xs⟩ 0) ++ hd 2 zs 0 = _
            rw [Ga9.hd_nil (k := 0) (s := zs) rfl, Ga9.hd_nil (k := 2) (s := zs) rfl, List.append_nil, List.nil_append, List.nil_append]
          have hlen1 : (hds [zs, ⟨false, g, ga, n, srtE xs⟩, zs] (fun _ => 0) 3).length ≤ 1 := by
            rw [hhd]; unfold hd; split <;> simp
          have HFi := hid (mfirst_any gm gs 3 cs true (.slice none 0 0) _ _ (fun _ => 0) w6 M6 (by omega) hO (fun h => by have := hmine _ h; have := hgl.out; omega) (fun h => by have := hmine _ h; have := hgl.out; omega) (fun _ => rfl) (fun f h1 h2 => by
            have h4 : f = 0 ∨ f = 1 ∨ f = 2 := by simp at h1; omega
            rcases h4 with rfl | rfl | rfl
            · cases h2
            · show ga ≠ gm
              have := hgal.out; omega
            · cases h2) (fills_small _ _ _ _ _ _ _ _ hlen1))
          rw [hhd] at HFi
          have hsl : Hid ((srtE xs).length = n) := by show _ = _; rw [srtE_len]; exact hxl.out
          have b6' : Hid (Below wr.heap.size wr w6) := Below.up b5.out b6
          have hlow : Hid (∀ W, Fp (fun j => Mine [zs, ⟨false, g, ga, n, srtE xs⟩, zs] j ∨ j = gm) w6 W → Below wr.heap.size wr W) := by
            intro W f
            have h1 := b6'.out
            exact h1.trans (f.base (base := wr.heap.size) h1.size (fun j hj => by
              rcases hj with hj | hj
              · rw [hmine j hj]; exact hgr.out
              · rw [hj]; have := b5.out.size; omega))
          have hfin : Hid (∀ W W', Fp (fun j => Mine [zs, ⟨false, g, ga, n, srtE xs⟩, zs] j ∨ j = gm) w6 W → Below W.heap.size W W' → Below w.heap.size w W') := fun W W' f b => Below.up (Bw.out.trans ((hlow.out W f).mono Bw.out.size)) b
          have hEW : Hid (∀ W W', Fp (fun j => Mine [zs, ⟨false, g, ga, n, srtE xs⟩, zs] j ∨ j = gm) w6 W → Below W.heap.size W W' → Ents W' a n c xs) := fun W W' f b => HEw.out.later (Below.up (hlow.out W f) b)
          have hsh : Hid (hds [zs, ⟨false, g, ga, n, srtE xs⟩, zs] (fun _ => 0) 3 = hd 1 ⟨false, g, ga, n, srtE xs⟩ 0) := hhd
          clear hO hmine hlen1 M6 L6 HNW b6 hgm hgs hne2 hhd hw5 hlow b6' b5 L5 hV4 hgq hgl hgal hgr HEw Bw
          rcases Nat.eq_zero_or_pos n with hn0 | hn0
          · subst hn0
            have hh : hd 1 (⟨false, g, ga, 0, srtE xs⟩ : Src) 0 = [] := Ga9.hd_out (hb0 0)
            rw [hh] at HFi
            replace hsh := hid (hsh.out.trans hh)
            have hF2 := HFi.out
            change Calls _ _ _ _ (fun e w' => ∃ H', e = .returned (.bool false) ∧ _) at hF2
            replace hF2 := hid hF2
            clear HFi hh
            go_wp2_with fail
            refine hF2.out.mono ?_
            rintro e w7 ⟨H', rfl, St⟩
            obtain ⟨gl, cl, M7⟩ := St.ex
            rw [hsh.out] at M7
            have HHe := hid (here_empty gm gs 3 cs gl cl false H' w7 M7)
            unfold c4 ze at HHe
            dsimp only at HHe
            have F7 := hid St.f
            clear M7 St hF2
            go_wp2_with fail
            refine HHe.out.mono ?_
            rintro e w8 ⟨rfl, b8⟩
            have b8' : Hid (∀ o, Below w7.heap.size w7 (w8.alloc o)) := fun o => b8.alloc b8.size o
            have HSo := hid (fun W h => rsorted_any a 0 c xs W h (by omega))
            clear b8 HHe
            go_wp2_with fail
            refine (HSo.out _ (hEW.out _ _ F7.out (b8'.out _))).mono ?_
            rintro e w9 ⟨v, rfl, A9⟩
            obtain ⟨za, zc, rfl⟩ := A9.shape
            have b9 : Hid (Below w.heap.size w w9) := hfin.out _ _ F7.out (Below.up (b8'.out _) A9.lo)
            clear A9 HSo
            go_wp2_with fail
            go_quiet (fail)
            go_wp2_with fail
            go_ret
            exact ⟨rfl, Below.up b9.out (drewN_below _ _)⟩
          · have hbt : hb n 0 = true := by unfold hb; simp; omega
            obtain ⟨x, hx⟩ : ∃ x, x = (hr (srtE xs) 0).getD ze := ⟨_, rfl⟩
            have hx2 : x = (srtE xs).getD 0 ze := by
              rw [hx]; unfold hr; rw [if_pos ⟨by omega, by rw [hsl.out]; omega⟩]; rfl
            have hh : hd 1 (⟨false, g, ga, n, srtE xs⟩ : Src) 0 = [⟨1, x⟩] := by rw [hx]; exact Ga9.hd_in rfl hbt
            rw [hh] at HFi
            replace hsh := hid (hsh.out.trans hh)
            have hF2 := HFi.out
            change Calls _ _ _ _ (fun e w' => ∃ H', e = .returned (.bool true) ∧ _) at hF2
            replace hF2 := hid hF2
            replace hx2 := hid hx2
            have hn1 : (0 : Int) < (n : Int) := by omega
            clear HFi hh hbt hx
            go_wp2_with fail
            refine hF2.out.mono ?_
            rintro e w7 ⟨H', rfl, St⟩
            obtain ⟨gl, cl, M7⟩ := St.ex
            have hq := St.q
            rw [hsh.out] at M7 hq
            have hH : H' = [⟨1, x⟩] := List.perm_singleton.1 hq
            subst hH
            have HHe := hid (here_at gm gs 3 cs gl 1 cl false [⟨1, x⟩] w7 M7 (by omega))
            have F7 := hid St.f
            have HFr : Hid (∀ W, Below w7.heap.size w7 W → Calls Try.prog 27 #[.pointer (some ⟨gm, 0, none⟩)] W fun e w' => e = .returned (.int .i64 1) ∧ Below W.heap.size W w') := fun W b => from_at gm gs 3 cs gl 1 cl false [⟨1, x⟩] W (M7.later b) (by omega)
            clear M7 St hF2 hq
            change Hid (Calls _ _ _ _ (fun e w' => e = .returned (.tuple #[.agg (c4 x), .bool true]) ∧ _)) at HHe
            obtain ⟨xk, xs', xc, xv⟩ := x
            unfold c4 at HHe
            dsimp only at HHe
            go_wp2_with fail
            refine HHe.out.mono ?_
            rintro e w8 ⟨rfl, b8⟩
            obtain ⟨W8, hW8⟩ : ∃ W, W = w8.alloc (.cells #[.string xk, .int .u64 xs', .int .i64 xc, .string xv] 43) := ⟨_, rfl⟩
            obtain ⟨g8, hg8⟩ : ∃ g, g = w8.heap.size := ⟨_, rfl⟩
            have k8 : W8.heap[g8]? = some (.cells #[.string xk, .int .u64 xs', .int .i64 xc, .string xv] 43) := by rw [hW8, hg8]; exact new_at _ _
            have b8' : Hid (Below w7.heap.size w7 W8) := by show Below _ _ _; rw [hW8]; exact b8.alloc b8.size _
            have HSo := hid (rsorted_any a n c xs W8 (hEW.out _ _ F7.out b8'.out) hbig.out)
            replace hW8 := hid hW8
            replace hg8 := hid hg8
            replace k8 := hid k8
            clear b8 HHe
            go_wp2_with fail
            try rw [← hW8.out, ← hg8.out]
            try go_wp2_with fail
            refine HSo.out.mono ?_
            rintro e w9 ⟨v, rfl, A9⟩
            obtain ⟨gz, zc, rfl⟩ := A9.nn (by intro e; have := hsl.out; rw [e] at this; simp at this; omega)
            have hA := A9.o.at 0 (by rw [hsl.out]; omega)
            rw [show (eE.z) = ze from rfl, ← hx2.out, Nat.zero_mul] at hA
            obtain ⟨y0, y1, y2, y3⟩ := at4_of hA
            rw [hsl.out]
            dsimp only at y0 y1 y2 y3
            have k9 := (A9.lo.block g8 (blk_lt k8.out)).trans k8.out
            have z0 := cell_regrown (cell_of k9 0 (.string xk) rfl)
            have z1 := cell_regrown (cell_of k9 1 (.int .u64 xs') rfl)
            have z2 := cell_regrown (cell_of k9 2 (.int .i64 xc) rfl)
            have z3 := cell_regrown (cell_of k9 3 (.string xv) rfl)
            replace y0 := cell_regrown y0
            replace y1 := cell_regrown y1
            replace y2 := cell_regrown y2
            replace y3 := cell_regrown y3
            have b79 : Hid (Below w7.heap.size w7 w9) := Below.up b8'.out A9.lo
            have b9 : Hid (Below w.heap.size w w9) := hfin.out _ _ F7.out b79.out
            have HF9 : Hid (∀ W, Below w9.heap.size w9 W → Calls Try.prog 27 #[.pointer (some ⟨gm, 0, none⟩)] W fun e w' => e = .returned (.int .i64 1) ∧ Below W.heap.size W w') := fun W b => HFr.out W (Below.up b79.out b)
            have heq := run_eq xk xs' xc xv
            have hn2 : (0 : Int) ≤ 0 := by omega
            clear A9 HSo hA k9 k8 HFr b79 b8'
            go_wp2_with fail
            refine wp_region_quiet_below (by kernel_rfl) (by kernel_rfl) ?_
            repeat (first | go_big_quiet_step (first | (go_at_call 27; exact Calls.regrown_of (HF9.out _ (below_regrown _ _ _)))) | quiet_step (first | (go_at_call 27; exact Calls.regrown_of (HF9.out _ (below_regrown _ _ _)))))
            refine wpQuiet_nil ?_
            intro w10 hw10
            have b10 : Below w9.heap.size w9 w10 := by
              obtain ⟨⟨dq, osq⟩, hw''⟩ := hw10
              rw [hw'']
              exact below_regrown _ dq osq
            have bF := hid (Below.up b9.out b10)
            clear hw10 b10 z0 z1 z2 z3 y0 y1 y2 y3
            go_wp2_with fail
            go_ret
            exact ⟨rfl, bF.out⟩
end Go.Proofs.Ytgjodfaliajlgaa.Mn9
