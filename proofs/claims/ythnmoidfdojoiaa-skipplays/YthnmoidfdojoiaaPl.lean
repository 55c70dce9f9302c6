/- SkipPlays: both lists under any calls. -/
import Derived.Test.YthnmoidfdojoiaaAu
import Derived.Test.YthnmoidfdojoiaaRj
import Derived.Test.YthnmoidfdojoiaaPu
import Derived.Test.YthnmoidfdojoiaaLsS
namespace Go.Proofs.Ythnmoidfdojoiaa.Pl
open Go.ChangeShapes Go.WideShapes Go.ChangeAt Go.RowKit
open Go.Sort (grow)
open Go.Proofs.Ythnmoidfdojoiaa.Ik
open Go.Proofs.Ythnmoidfdojoiaa.Sg
open Go.Proofs.Ythnmoidfdojoiaa.Cm (ik)
open Go.Proofs.Ythnmoidfdojoiaa.Vl
open Go.Proofs.Ythnmoidfdojoiaa.Mm
open Go.Proofs.Ythnmoidfdojoiaa.Tr
open Go.Proofs.Ythnmoidfdojoiaa.Li
open Go.Proofs.Ythnmoidfdojoiaa.In (thr first_mem)
open Go.Proofs.Ythnmoidfdojoiaa.Oi
open Go.Proofs.Ythnmoidfdojoiaa.Tl (trl)
open Go.Proofs.Ythnmoidfdojoiaa.Fi (among_any)
open Go.Proofs.Ythnmoidfdojoiaa.Rc
open Go.Proofs.Ythnmoidfdojoiaa.Rl
open Go.Proofs.Ythnmoidfdojoiaa.Rn
open Go.Proofs.Ythnmoidfdojoiaa.Rk
open Go.Proofs.Ythnmoidfdojoiaa.Rt
open Go.Proofs.Ythnmoidfdojoiaa.As
open Go.Proofs.Ythnmoidfdojoiaa.Au
open Go.Proofs.Ythnmoidfdojoiaa.Ri
open Go.Proofs.Ythnmoidfdojoiaa.Rj
open Go.Proofs.Ythnmoidfdojoiaa.In (insE)
open Go.Proofs.Ythnmoidfdojoiaa.Gn (row_grown)
open Go.Proofs.Ythnmoidfdojoiaa.InS (SL)
set_option linter.unusedVariables false
set_option linter.unusedSimpArgs false
theorem sl_gblk {w : World} {base g b most : Nat} {ns : List N} {ord : List Nat} (H : SL w base g b most ns ord) : ∃ c f, w.heap[g]? = some (.cells c 83 f) := by
  obtain ⟨cap, tw, h, _⟩ := H; exact ⟨_, _, h.hd⟩
theorem sl_bblk {w : World} {base g b most : Nat} {ns : List N} {ord : List Nat} (H : SL w base g b most ns ord) : ∃ c f, w.heap[b]? = some (.cells c 93 f) := by
  obtain ⟨cap, tw, h, _⟩ := H
  obtain ⟨cur, h1, _⟩ := h.rw
  exact ⟨_, _, h1⟩
theorem sl_bases {w : World} {base g b most : Nat} {ns : List N} {ord : List Nat} (H : SL w base g b most ns ord) : base ≤ g ∧ base ≤ b ∧ g < w.heap.size ∧ b < w.heap.size ∧ ns.length ≤ most ∧ most ≤ 1048576 ∧ ord.length = ns.length := by
  obtain ⟨cap, tw, h, G, _⟩ := H
  exact ⟨h.bg, h.bb, h.hd.lt, h.rw.lt, h.ln, h.m2, G.len⟩
theorem sl_kept {w w' : World} {base g b most : Nat} {ns : List N} {ord : List Nat} {row : Option Nat} (H : SL w base g b most ns ord) (k : w.grownBy w' row) (hr : ∀ j, row = some j → ∃ c t f, w.heap[j]? = some (.cells c t f) ∧ t ≠ 83 ∧ t ≠ 93) : SL w' base g b most ns ord := by
  have hg := sl_gblk H
  have hb := sl_bblk H
  obtain ⟨cap, tw, h, G, L⟩ := H
  have ng : some g ≠ row := by
    intro e
    obtain ⟨c, t, f, h1, h2, _⟩ := hr g e.symm
    obtain ⟨c', f', h'⟩ := hg
    rw [h'] at h1
    simp at h1
    exact h2 h1.2.1.symm
  have nb : some b ≠ row := by
    intro e
    obtain ⟨c, t, f, h1, _, h2⟩ := hr b e.symm
    obtain ⟨c', f', h'⟩ := hb
    rw [h'] at h1
    simp at h1
    exact h2 h1.2.1.symm
  have hg1 : w'.heap[g]? = w.heap[g]? := k.block g h.hd.lt ng
  have hb1 : w'.heap[b]? = w.heap[b]? := k.block b h.rw.lt nb
  obtain ⟨cur, r1, r2⟩ := h.rw
  exact ⟨cap, tw, ⟨hg1.trans h.hd, ⟨cur, hb1.trans r1, r2⟩, h.bg, h.bb, h.ne, h.m1, h.m2, h.ln, h.tl⟩, G, L⟩
structure A7 where
  kd : Int
  ht : Int
  n : Int
  k : ByteArray
  s : Int
  c : Int
  v : ByteArray
def za : A7 := ⟨0, 0, 0, ⟨#[]⟩, 0, 0, ⟨#[]⟩⟩
def A7.ok (x : A7) : Prop := x.k.size ≤ maxLen
def At7 (w : World) (b o : Nat) (x : A7) : Prop := w.cell? ⟨b, o, none⟩ = some (.int .i64 x.kd) ∧ w.cell? ⟨b, o + 1, none⟩ = some (.int .i64 x.ht) ∧ w.cell? ⟨b, o + 2, none⟩ = some (.int .i64 x.n) ∧ w.cell? ⟨b, o + 3, none⟩ = some (.string x.k) ∧ w.cell? ⟨b, o + 4, none⟩ = some (.int .u64 x.s) ∧ w.cell? ⟨b, o + 5, none⟩ = some (.int .i64 x.c) ∧ w.cell? ⟨b, o + 6, none⟩ = some (.string x.v)
theorem cell_keep {w w' : World} {n b o : Nat} {v : Value} (hb : Below n w w') (hn : b < n) (h : w.cell? ⟨b, o, none⟩ = some v) : w'.cell? ⟨b, o, none⟩ = some v := (World.cell?_of_block (a := ⟨b, o, none⟩) (hb.block b hn)).trans h
theorem At7.later {w w' : World} {b o : Nat} {x : A7} (h : At7 w b o x) (hb : Below w.heap.size w w') : At7 w' b o x :=
  have q : ∀ {o : Nat} {v : Value}, w.cell? ⟨b, o, none⟩ = some v → w'.cell? ⟨b, o, none⟩ = some v := fun e => cell_keep hb (block_lt_of_cell e) e
  ⟨q h.1, q h.2.1, q h.2.2.1, q h.2.2.2.1, q h.2.2.2.2.1, q h.2.2.2.2.2.1, q h.2.2.2.2.2.2⟩
/-- A slice of acts that can be read. -/
def Acts (w : World) (a : Option Addr) (len cap : Nat) (xs : List A7) : Prop :=
  xs.length = len ∧ len ≤ cap ∧ (a = none → len = 0 ∧ cap = 0) ∧ (∀ x ∈ xs, x.ok) ∧ (∀ b o p, a = some ⟨b, o, p⟩ → 0 < len → p = none ∧ ∀ i, i < len → At7 w b (o + i * 7) (xs.getD i za))
theorem own_fr {w w' : World} {g b base e size n : Nat} {v : Value} {xs : List Value} (O : w.ownsRow base e size v n xs) (F : LiS.Fr g b w w') (hg : ∃ c f, w.heap[g]? = some (.cells c 83 f)) (hb : ∃ c f, w.heap[b]? = some (.cells c 93 f)) (h1 : e ≠ 83) (h2 : e ≠ 93) : w'.ownsRow base e size v n xs := by
  rcases O.2 with ⟨e, h0⟩ | ⟨q, cap', cur, e, hq, hgq, rest⟩
  · exact ⟨O.1, .inl ⟨e, h0⟩⟩
  · refine ⟨O.1, .inr ⟨q, cap', cur, e, hq, ?_, rest⟩⟩
    obtain ⟨c1, f1, e1⟩ := hg
    obtain ⟨c2, f2, e2⟩ := hb
    rw [F.block q (blk_lt hgq) ?_ ?_]
    · exact hgq
    · rintro rfl; rw [hgq] at e1; simp at e1; exact h1 e1.2.1
    · rintro rfl; rw [hgq] at e2; simp at e2; exact h2 e2.2.1
theorem names_any (w : World) : Calls Try.prog 11 #[] w fun e w' => e = .returned (.bool true) ∧ w' = w := by
  go_enter Try.func11, Try.ntmps11
  go_wp2_with fail
  go_ret
  exact ⟨rfl, rfl⟩
set_option maxHeartbeats 1000000 in
set_option maxRecDepth 100000 in
theorem plays_no (most : Int) (u : Value) (w : World) (hm : most < 1 ∨ 1048576 < most) :
    Calls Try.prog 3 #[.int .i64 most, u] w fun e w' => e = .returned (.bool true) ∧ Below w.heap.size w w' := by
  have HA := hid (LsS.new_no most w hm)
  have HB := hid (rnew_no most w hm)
  have HN : Hid (∀ W, Calls Try.prog 11 #[] W fun e w' => e = .returned (.bool true) ∧ w' = W) := fun W => names_any W
  have HC : Hid (∀ W, Calls Try.prog 9 #[.int .i64 1] W fun e w' => e = .returned (.tuple #[.pointer (some ⟨W.heap.size + 1, 0, none⟩), .int .i64 0]) ∧ InS.SL w' W.heap.size (W.heap.size + 1) W.heap.size 1 [] [] ∧ Below W.heap.size W w') := fun W => FiS.new_ok 1 W (by omega) (by omega)
  clear hm
  go_enter Try.func3, Try.ntmps3
  go_wp2_with fail
  refine HA.out.mono ?_
  rintro e w1 ⟨rfl, rfl⟩
  go_wp2_with fail
  refine HB.out.mono ?_
  rintro e w2 ⟨rfl, b2⟩
  have B3 : Hid (Below w1.heap.size w1 (w2.alloc (.cells #[.int .i64 0, .slice none 0 0, .slice none 0 0] 30))) := b2.alloc b2.size _
  clear b2
  go_wp2_with fail
  refine (HN.out _).mono ?_
  rintro e w3 ⟨rfl, rfl⟩
  go_wp2_with fail
  refine (HC.out _).mono ?_
  rintro e w4 ⟨rfl, S4, b4⟩
  have BF := hid (B3.out.trans (b4.mono B3.out.size))
  clear S4 b4
  go_wp2_with fail
  go_ret
  exact ⟨rfl, BF.out⟩
def Inv (w : World) (g gm most : Nat) (wr : World) : Prop := ∃ b an ao cn co ns ord, SL wr w.heap.size g b most ns ord ∧ RL wr w.heap.size an ao cn co ns ord ∧ RB wr gm most an ao cn co ns.length ord.length ∧ Strs ns ∧ Below w.heap.size w wr
theorem RL.fr {W W' : World} {base bs g b most cn co : Nat} {an ao : Option Addr} {ns : List N} {ord : List Nat} (H : RL W base an ao cn co ns ord) (S : SL W bs g b most ns ord) (F : LiS.Fr g b W W') : RL W' base an ao cn co ns ord :=
  ⟨own_fr H.n F (sl_gblk S) (sl_bblk S) (by decide) (by decide), own_fr H.o F (sl_gblk S) (sl_bblk S) (by decide) (by decide), H.G⟩
theorem RB.fr {W W' : World} {bs g b most m2 gm cn co n m : Nat} {an ao : Option Addr} {ns : List N} {ord : List Nat} (R : RB W gm m2 an ao cn co n m) (S : SL W bs g b most ns ord) (F : LiS.Fr g b W W') : RB W' gm m2 an ao cn co n m := by
  obtain ⟨c1, f1, e1⟩ := sl_gblk S
  obtain ⟨c2, f2, e2⟩ := sl_bblk S
  refine (F.block gm (blk_lt R) ?_ ?_).trans R
  · rintro rfl; rw [show W.heap[gm]? = _ from R] at e1; simp at e1
  · rintro rfl; rw [show W.heap[gm]? = _ from R] at e2; simp at e2
theorem Inv.store {w W : World} {g gm b most cn co cn0 co0 n0 m0 : Nat} {an ao an0 ao0 : Option Addr} {ns : List N} {ord : List Nat} (S : SL W w.heap.size g b most ns ord) (R : RL W w.heap.size an ao cn co ns ord) (Q : RB W gm most an0 ao0 cn0 co0 n0 m0) (hst : Strs ns) (B : Below w.heap.size w W) (hgm : w.heap.size ≤ gm) :
    Inv w g gm most (((W.setCell ⟨gm, 0, none⟩ (.int .i64 (most : Int))).setCell ⟨gm, 1, none⟩ (.slice an ns.length cn)).setCell ⟨gm, 2, none⟩ (.slice ao ord.length co)) := by
  obtain ⟨W', hW'⟩ : ∃ W', W' = ((W.setCell ⟨gm, 0, none⟩ (.int .i64 (most : Int))).setCell ⟨gm, 1, none⟩ (.slice an ns.length cn)).setCell ⟨gm, 2, none⟩ (.slice ao ord.length co) := ⟨_, rfl⟩
  have gs : W.grownBy W' (some gm) := by rw [hW']; exact grown_trans (grown_trans (grown_set _) (grown_set _) (fun _ e => .inl e)) (grown_set _) (fun _ e => .inl e)
  have hq : ∀ c f t, t ≠ 30 → W.heap[gm]? ≠ some (.cells c t f) := fun c f t ht e => by rw [show W.heap[gm]? = _ from Q] at e; simp at e; exact ht e.2.1.symm
  rw [← hW']
  refine ⟨b, an, ao, cn, co, ns, ord, sl_kept S gs (fun j e => ?_), ⟨row_grown R.n gs (fun q e c f => by cases e; exact hq c f _ (by decide)), row_grown R.o gs (fun q e c f => by cases e; exact hq c f _ (by decide)), R.G⟩, ?_, hst, ?_⟩
  · cases e; exact ⟨_, _, _, Q, by decide, by decide⟩
  · rw [hW']; exact set3 _ _ _ Q
  · rw [hW']; exact set3_below _ _ _ B hgm
set_option maxHeartbeats 4000000 in
set_option maxRecDepth 100000 in
theorem plays_ok (most : Nat) (a : Option Addr) (len cap : Nat) (xs : List A7) (w : World) (h1 : 1 ≤ most) (h2 : most ≤ 1048576) (HX : Acts w a len cap xs) (hlen : len ≤ 140737488355328) :
    Calls Try.prog 3 #[.int .i64 (most : Int), .slice a len cap] w fun e w' => e = .returned (.bool true) ∧ Below w.heap.size w w' := by
  have HA := hid (FiS.new_ok most w h1 h2)
  have HB : Hid (∀ W, Calls Try.prog 10 #[.int .i64 (most : Int)] W fun e w' => e = .returned (.tuple #[.agg #[.int .i64 (most : Int), .slice none 0 0, .slice none 0 0], .int .i64 0]) ∧ Below W.heap.size W w') := fun W => rnew_ok most W h1 h2
  have HN : Hid (∀ W, Calls Try.prog 11 #[] W fun e w' => e = .returned (.bool true) ∧ w' = W) := fun W => names_any W
  replace HX := hid HX
  obtain ⟨g, hg⟩ : ∃ g, g = w.heap.size + 1 := ⟨_, rfl⟩
  rw [← hg] at HA
  replace hg := hid hg
  go_enter Try.func3, Try.ntmps3
  go_wp2_with fail
  refine HA.out.mono ?_
  rintro e w1 ⟨rfl, S1, b1⟩
  replace S1 := hid S1
  replace b1 := hid b1
  go_wp2_with fail
  refine (HB.out _).mono ?_
  rintro e w2 ⟨rfl, b2⟩
  obtain ⟨gm, hgm⟩ : ∃ gm, gm = w2.heap.size := ⟨_, rfl⟩
  obtain ⟨W3, hW3⟩ : ∃ W3, W3 = w2.alloc (.cells #[.int .i64 (most : Int), .slice none 0 0, .slice none 0 0] 30) := ⟨_, rfl⟩
  have B2 := b1.out.trans (b2.mono b1.out.size)
  have b3 : Below w2.heap.size w2 W3 := by rw [hW3]; exact box_below _ _
  have B3 := B2.trans (b3.mono B2.size)
  have hgm2 : w.heap.size ≤ gm := by rw [hgm]; exact B2.size
  have I3 : Inv w g gm most W3 := ⟨_, none, none, 0, 0, [], [], (S1.out.later b2).later b3, RL.nil _ _, by rw [hW3, hgm]; exact new_at _ _, fun x hx => by simp at hx, B3⟩
  replace I3 := hid I3
  replace hW3 := hid hW3
  replace hgm := hid hgm
  replace hgm2 := hid hgm2
  clear b2 b1 b3 B2 B3 HA HB S1
  go_wp2_with fail
  rw [← hW3.out, ← hgm.out]
  go_wp2_with fail
  refine (HN.out _).mono ?_
  rintro e w3 ⟨rfl, rfl⟩
  clear hW3 HN hgm
  go_wp2_with fail
  go_loopw [8, 11] (fun fv iv wr => ∃ i : Nat, i ≤ len ∧ iv = .int .i64 (i : Int) ∧ Hid (Inv w g gm most wr)) (fun _ iv _ => len - (intOf iv).toNat)
  case atStart => exact ⟨0, Nat.zero_le _, rfl, I3⟩
  case round =>
    obtain ⟨i, hi, rfl, HI⟩ := hrel
    by_cases hlt : i < len
    · obtain ⟨ad, rfl⟩ : ∃ ad, a = some ad := by
        cases a with
        | none => have := (HX.out.2.2.1 rfl).1; omega
        | some ad => exact ⟨ad, rfl⟩
      obtain ⟨pb, po, psp⟩ := ad
      obtain ⟨hsp, hat⟩ := HX.out.2.2.2.2 pb po psp rfl (by omega)
      subst hsp
      obtain ⟨b, an, ao, cn, co, ns, ord, S, R, Q, hst, B⟩ := HI.out
      obtain ⟨c0, c1, c2, c3, c4, c5, c6⟩ := (hat i hlt).later B
      clear hat
      have hok : (xs.getD i za).ok := HX.out.2.2.2.1 _ (by rw [List.getD_eq_getElem?_getD, List.getElem?_eq_getElem (by rw [HX.out.1]; exact hlt)]; exact List.getElem_mem _)
      generalize xs.getD i za = p at *
      obtain ⟨kd, ht, n, k, s, c, v⟩ := p
      simp only at c0 c1 c2 c3 c4 c5 c6 hok
      have i1 : (i : Int) < (len : Int) := by omega
      obtain ⟨hb1, hb2, hb3, hb4, hb5, hb6, hb7⟩ := sl_bases S
      have hl : ns.length ≤ 1048576 := by omega
      obtain ⟨W4, hW4⟩ : ∃ W4, W4 = wr.alloc (.cells #[.int .i64 kd, .int .i64 ht, .int .i64 n, .string k, .int .u64 s, .int .i64 c, .string v] 38) := ⟨_, rfl⟩
      have b4 : Below wr.heap.size wr W4 := by rw [hW4]; exact box_below _ _
      obtain ⟨ga, hga⟩ : ∃ ga, ga = wr.heap.size := ⟨_, rfl⟩
      have A4 : W4.heap[ga]? = some (.cells #[.int .i64 kd, .int .i64 ht, .int .i64 n, .string k, .int .u64 s, .int .i64 c, .string v] 38) := by rw [hW4, hga]; exact new_at _ _
      have S4 := S.later b4
      have R4 := R.later b4
      have Q4 := Q.later b4
      have B4 := B.trans (b4.mono B.size)
      have HAm : Hid (∀ W, Calls Try.prog 12 #[.int .i64 kd, .int .i64 8] W fun e w' => e = .returned (.int .i64 (kd % 8)) ∧ w' = W) := fun W => among_any kd 8 W (by omega)
      have q0 := Q4.c0
      have q1 := Q4.c1
      have q2 := Q4.c2
      have a0 := cell_of A4 0 (.int .i64 kd) rfl
      have a1 := cell_of A4 1 (.int .i64 ht) rfl
      have a2 := cell_of A4 2 (.int .i64 n) rfl
      have a3 := cell_of A4 3 (.string k) rfl
      have a4 := cell_of A4 4 (.int .u64 s) rfl
      have a5 := cell_of A4 5 (.int .i64 c) rfl
      have a6 := cell_of A4 6 (.string v) rfl
      replace A4 := hid A4
      replace S4 := hid S4
      replace R4 := hid R4
      replace Q4 := hid Q4
      replace B4 := hid B4
      replace hW4 := hid hW4
      replace hga := hid hga
      replace hst := hid hst
      replace hb7 := hid hb7
      clear S R Q B b4 HI
      go_wp2_with fail
      rw [← hW4.out, ← hga.out]
      go_wp2_with fail
      refine (HAm.out _).mono ?_
      rintro e w5 ⟨rfl, rfl⟩
      clear HAm hW4 hga c0 c1 c2 c3 c4 c5 c6
      by_cases hk0 : kd % 8 = 0
      · rw [hk0]
        have hbs : w.heap.size ≤ w5.heap.size := B4.out.size
        by_cases hE : insE most ns ord k s c ht = 0
        · obtain ⟨hv1, hh, hth, hfull⟩ := Pu.insE_zero hE
          have HI1 : Hid (Calls Try.prog 14 #[.pointer (some ⟨g, 0, none⟩), .agg #[.string k, .int .u64 s, .int .i64 c], .string v, .int .i64 ht] w5 fun e w' => e = .returned (.int .i64 0) ∧ LiS.Fr g b w5 w' ∧ ∃ b', (b' = b ∨ w5.heap.size ≤ b') ∧ SL w' w.heap.size g b' most (ns ++ [⟨k, s, c, .string v, ht.toNat⟩]) (ordI ns ord (ik k s c) (ns.length + 1))) := GsS.insert_yes w.heap.size g b most ns ord k s c v ht w5 S4.out hbs hok hE
          go_wp2_with fail
          refine HI1.out.mono ?_
          rintro e w6 ⟨rfl, F6, b', hb', S6⟩
          have R6 := RL.fr R4.out S4.out F6
          have Q6 := RB.fr Q4.out S4.out F6
          have A6 : w6.heap[ga]? = some (.cells #[.int .i64 kd, .int .i64 ht, .int .i64 n, .string k, .int .u64 s, .int .i64 c, .string v] 38) := by
            obtain ⟨c1, f1, e1⟩ := sl_gblk S4.out
            obtain ⟨c2, f2, e2⟩ := sl_bblk S4.out
            refine (F6.block ga (blk_lt A4.out) ?_ ?_).trans A4.out
            · rintro rfl; rw [A4.out] at e1; simp at e1
            · rintro rfl; rw [A4.out] at e2; simp at e2
          have B6 := B4.out.trans (F6.base hb1 hb2 hbs)
          have HI2 := rins_ok w.heap.size most an ao cn co ns ord k s c v ht w6 R6 hl B6.size hok hv1 hh hth (by omega)
          clear q0 q1 q2 a0 a1 a2 a3 a4 a5 a6 HI1
          have q0 := Q6.c0
          have q1 := Q6.c1
          have q2 := Q6.c2
          have a1 := cell_of A6 1 (.int .i64 ht) rfl
          have a3 := cell_of A6 3 (.string k) rfl
          have a4 := cell_of A6 4 (.int .u64 s) rfl
          have a5 := cell_of A6 5 (.int .i64 c) rfl
          have a6 := cell_of A6 6 (.string v) rfl
          replace HI2 := hid HI2
          replace S6 := hid S6
          replace R6 := hid R6
          replace Q6 := hid Q6
          replace A6 := hid A6
          replace B6 := hid B6
          clear F6 hb' hE hv1 hh hth hfull
          go_wp2_with fail
          refine HI2.out.mono ?_
          rintro e w7 ⟨an', ao', cn', co', rfl, R7, g7⟩
          have hrw : ∀ j, (Value.slice an ns.length cn).ownBlock = some j → ∃ c t f, w6.heap[j]? = some (.cells c t f) ∧ t = 56 := fun j hj => by
            obtain ⟨c', f', h3⟩ := row_blk R6.out.n j hj
            exact ⟨c', _, f', h3, rfl⟩
          have S7 := sl_kept S6.out g7 (fun j hj => by obtain ⟨c, t, f, h, e⟩ := hrw j hj; exact ⟨c, t, f, h, by rw [e]; decide, by rw [e]; decide⟩)
          have Q7 : RB w7 gm most an ao cn co ns.length ord.length := (g7.block gm (blk_lt Q6.out) (fun e => by obtain ⟨c', t', f', h3, h4⟩ := hrw gm e.symm; rw [show w6.heap[gm]? = _ from Q6.out, h4] at h3; simp at h3)).trans Q6.out
          have B7 : Below w.heap.size w w7 := B6.out.grown g7 B6.out.size (fun j hj => (World.ownsRow.lt R6.out.n j hj).1)
          have hst7 : Strs (ns ++ [⟨k, s, c, .string v, ht.toNat⟩]) := fun y hy => by
            rcases List.mem_append.1 hy with h | h
            · exact hst.out y h
            · simp at h; subst h; exact ⟨v, rfl⟩
          have IN := Inv.store S7 R7 Q7 hst7 B7 hgm2.out
          have el : (ordI ns ord (ik k s c) (ns.length + 1)).length = ord.length + 1 := by have := R7.G.len; rw [this]; simp; exact hb7.out.symm
          rw [el, show (ns ++ [(⟨k, s, c, .string v, ht.toNat⟩ : N)]).length = ns.length + 1 by simp] at IN
          have y0 := Q7.c0
          have y1 := Q7.c1
          have y2 := Q7.c2
          have f0 := fz_of Q7 0
          have f1 := fz_of Q7 1
          have f2 := fz_of Q7 2
          replace IN := hid IN
          clear q0 q1 q2 a1 a3 a4 a5 a6 HI2 hrw S7 Q7 B7 hst7 el R7 g7 S6 R6 Q6 A6 B6
          generalize ord.length + 1 = oL at *
          generalize ns.length + 1 = nL at *
          go_wp2_with fail
          refine ⟨⟨i + 1, by omega, by simp, IN⟩, ?_⟩
          simp only [intOf]; omega
        · have HI1 : Hid (Calls Try.prog 14 #[.pointer (some ⟨g, 0, none⟩), .agg #[.string k, .int .u64 s, .int .i64 c], .string v, .int .i64 ht] w5 fun e w' => e = .returned (.int .i64 (insE most ns ord k s c ht)) ∧ Below w5.heap.size w5 w') := GsS.insert_no w.heap.size g b most ns ord k s c v ht w5 S4.out hbs hok hE
          have HI2 : Hid (∀ W, RL W w.heap.size an ao cn co ns ord → Calls Try.prog 15 #[.agg #[.int .i64 (most : Int), .slice an ns.length cn, .slice ao ord.length co], .agg #[.string k, .int .u64 s, .int .i64 c], .string v, .int .i64 ht] W fun e w' => e = .returned (.tuple #[.agg #[.int .i64 (most : Int), .slice an ns.length cn, .slice ao ord.length co], .int .i64 (insE most ns ord k s c ht)]) ∧ Below W.heap.size W w') := fun W hW => rins_no w.heap.size most an ao cn co ns ord k s c (.string v) ht W hW hl hok hE
          generalize insE most ns ord k s c ht = E at *
          go_wp2_with fail
          refine HI1.out.mono ?_
          rintro e w6 ⟨rfl, b6⟩
          have S6 := hid (S4.out.later b6)
          have R6 := hid (R4.out.later b6)
          have Q6 := Q4.out.later b6
          have A6 := (b6.block ga (blk_lt A4.out)).trans A4.out
          have B6 := hid (B4.out.trans (b6.mono B4.out.size))
          clear q0 q1 q2 a0 a1 a2 a3 a4 a5 a6 HI1 b6 hE
          have q0 := Q6.c0
          have q1 := Q6.c1
          have q2 := Q6.c2
          have a1 := cell_of A6 1 (.int .i64 ht) rfl
          have a3 := cell_of A6 3 (.string k) rfl
          have a4 := cell_of A6 4 (.int .u64 s) rfl
          have a5 := cell_of A6 5 (.int .i64 c) rfl
          have a6 := cell_of A6 6 (.string v) rfl
          replace Q6 := hid Q6
          replace A6 := hid A6
          go_wp2_with fail
          refine (HI2.out _ R6.out).mono ?_
          rintro e w7 ⟨rfl, b7⟩
          have Q7 := Q6.out.later b7
          have IN := hid (Inv.store (S6.out.later b7) (R6.out.later b7) Q7 hst.out (B6.out.trans (b7.mono B6.out.size)) hgm2.out)
          have y0 := Q7.c0
          have y1 := Q7.c1
          have y2 := Q7.c2
          have f0 := fz_of Q7 0
          have f1 := fz_of Q7 1
          have f2 := fz_of Q7 2
          replace Q7 := hid Q7
          clear q0 q1 q2 a1 a3 a4 a5 a6 HI2 b7 S6 R6 Q6 A6 B6
          go_wp2_with fail
          refine ⟨⟨i + 1, by omega, by simp, IN⟩, ?_⟩
          simp only [intOf]; omega
      · have hk1 : ((kd % 8) != 0) = true := by simpa using hk0
        have HK := hid (asked_any w.heap.size w.heap.size g b most an ao cn co ns ord kd ht n k s c v w5 S4.out R4.out hl hst.out hk0)
        generalize kd % 8 = m8 at *
        go_wp2_with fail
        refine HK.out.mono ?_
        rintro e w6 ⟨rfl, b6⟩
        have I6 : Hid (Inv w g gm most w6) := ⟨b, an, ao, cn, co, ns, ord, S4.out.later b6, R4.out.later b6, Q4.out.later b6, hst.out, B4.out.trans (b6.mono B4.out.size)⟩
        clear b6 HK q0 q1 q2 a0 a1 a2 a3 a4 a5 a6
        go_wp2_with fail
        refine ⟨⟨i + 1, by omega, by simp, I6⟩, ?_⟩
        simp only [intOf]; omega
    · have i1 : ¬ (i : Int) < (len : Int) := by omega
      go_wp2_with fail
      go_loopw [14] (fun jv wq => ∃ j : Nat, 1 ≤ j ∧ j ≤ 8 ∧ jv = .int .i64 (j : Int) ∧ Hid (Inv w g gm most wq)) (fun jv _ => 8 - (intOf jv).toNat)
      case atStart => exact ⟨1, by omega, by omega, rfl, HI⟩
      case round =>
        obtain ⟨j, hj1, hj2, rfl, HJ⟩ := hrel
        obtain ⟨b, an, ao, cn, co, ns, ord, S, R, Q, hst, B⟩ := HJ.out
        by_cases hj : j < 8
        · obtain ⟨hb1, hb2, hb3, hb4, hb5, hb6, hb7⟩ := sl_bases S
          have hl : ns.length ≤ 1048576 := by omega
          have HL : Hid (∀ d os, Calls Try.prog 16 #[.pointer (some ⟨g, 0, none⟩)] (grow (redrawn wr d) os) fun e w' => e = .returned (.int .i64 (ns.length : Int)) ∧ Below (grow (redrawn wr d) os).heap.size (grow (redrawn wr d) os) w') := fun d os => by
            obtain ⟨cap, tw, HL, G, L⟩ := S.later (below_regrown wr d os)
            exact (MmS.len_any g most (top ns) b ns.length cap _ HL.hd HL.m1 hl).mono fun _ _ h => below_self h
          have HK : Hid (∀ d os, Calls Try.prog 13 #[.pointer (some ⟨g, 0, none⟩), .agg #[.int .i64 (most : Int), .slice an ns.length cn, .slice ao ord.length co], .agg #[.int .i64 (j : Int), .int .i64 0, .int .i64 ((ns.length / 2 : Nat) : Int), .string ⟨#[]⟩, .int .u64 0, .int .i64 0, .string ⟨#[]⟩]] (grow (redrawn wr d) os) fun e w' => e = .returned (.bool true) ∧ Below (grow (redrawn wr d) os).heap.size (grow (redrawn wr d) os) w') := fun d os => asked_any w.heap.size w.heap.size g b most an ao cn co ns ord (j : Int) 0 ((ns.length / 2 : Nat) : Int) ⟨#[]⟩ 0 0 ⟨#[]⟩ _ (S.later (below_regrown wr d os)) (R.later (below_regrown wr d os)) hl hst (by omega)
          have d0 := fun d os => cell_regrown Q.c0 d os
          have d1 := fun d os => cell_regrown Q.c1 d os
          have d2 := fun d os => cell_regrown Q.c2 d os
          have hdv : ((ns.length : Int)).tdiv 2 = ((ns.length / 2 : Nat) : Int) := by rw [Int.tdiv_eq_ediv_of_nonneg (by omega)]; omega
          have hdv2 : ((ns.length : Int)) / 2 = ((ns.length / 2 : Nat) : Int) := by omega
          have j1 : (j : Int) < 8 := by omega
          have IS : Hid (∀ W, Below wr.heap.size wr W → Inv w g gm most W) := fun W hW => ⟨b, an, ao, cn, co, ns, ord, S.later hW, R.later hW, Q.later hW, hst, B.trans (hW.mono B.size)⟩
          obtain ⟨hf, hhf⟩ : ∃ hf, hf = ns.length / 2 := ⟨_, rfl⟩
          have hhf2 : hf ≤ 1048576 := by omega
          rw [← hhf] at HK hdv hdv2
          replace hhf := hid hhf
          replace hb7 := hid hb7
          clear S R Q B hst
          go_wp2_with fail
          refine wp_region_quiet_below (by kernel_rfl) (by kernel_rfl) ?_
          repeat (first | go_big_quiet_step (first | (go_at_call 16; exact Calls.regrown_of (HL.out _ _)) | (go_at_call 13; exact Calls.regrown_of (HK.out _ _))) | quiet_step (first | (go_at_call 16; exact Calls.regrown_of (HL.out _ _)) | (go_at_call 13; exact Calls.regrown_of (HK.out _ _))))
          refine wpQuiet_nil ?_
          intro w8 hw8
          have b8 : Below wr.heap.size wr w8 := by
            obtain ⟨⟨dq, osq⟩, hw''⟩ := hw8
            rw [hw'']
            exact below_regrown _ dq osq
          have I8 := hid (IS.out w8 b8)
          clear b8 hw8 d0 d1 d2 HL HK IS
          go_wp2_with fail
          refine ⟨⟨j + 1, by omega, by omega, by simp, I8⟩, ?_⟩
          simp only [intOf]; omega
        · have e : j = 8 := by omega
          subst e
          have BF := hid B
          clear S R Q hst
          go_wp2_with fail
          go_ret
          exact ⟨rfl, BF.out⟩
theorem plays_any (most : Int) (a : Option Addr) (len cap : Nat) (xs : List A7) (w : World) (hm : -9223372036854775808 ≤ most ∧ most ≤ 9223372036854775807) (HX : Acts w a len cap xs) (hlen : len ≤ 140737488355328) :
    Calls Try.prog 3 #[.int .i64 most, .slice a len cap] w fun e w' => e = .returned (.bool true) ∧ Below w.heap.size w w' := by
  by_cases h : most < 1 ∨ 1048576 < most
  · exact plays_no most _ w h
  · obtain ⟨m, rfl⟩ : ∃ m : Nat, most = m := ⟨most.toNat, by omega⟩
    exact plays_ok m a len cap xs w (by omega) (by omega) HX hlen
end Go.Proofs.Ythnmoidfdojoiaa.Pl
