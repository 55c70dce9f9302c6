/- The law's puts; Insert, all outcomes in two; the list that the law makes of them. -/
import Derived.Test.YthnmoidfdojoiaaTl
import Derived.Test.YthnmoidfdojoiaaFi
import Derived.StillTailTactics
namespace Go.Proofs.Ythnmoidfdojoiaa.Pu
open Go.ChangeShapes Go.WideShapes Go.ChangeAt Go.RowKit
open Go.Sort (grow)
open Go.Proofs.Ythnmoidfdojoiaa.Ik
open Go.Proofs.Ythnmoidfdojoiaa.Sg
open Go.Proofs.Ythnmoidfdojoiaa.Cm (ik)
open Go.Proofs.Ythnmoidfdojoiaa.Vl
open Go.Proofs.Ythnmoidfdojoiaa.Mm
open Go.Proofs.Ythnmoidfdojoiaa.Tr
open Go.Proofs.Ythnmoidfdojoiaa.Li
open Go.Proofs.Ythnmoidfdojoiaa.In
open Go.Proofs.Ythnmoidfdojoiaa.Oi
set_option linter.unusedVariables false
set_option linter.unusedSimpArgs false

open Go.Proofs.Ythnmoidfdojoiaa.Tl
open Go.Proofs.Ythnmoidfdojoiaa.Fi

theorem region_tail {P : Program} {id : Nat} {Q : Exit → Act → World → Prop} {a : Act} {w : World} {l : List Oper} (n : Nat) (hm : P.follows .mixedOrders = true) (hB : Region.lexTailB .any l.toArray n = true)
    (h : wpStill P l.toArray w.drew (fun a' => wpList P l.toArray Q (l.drop n) a' w.drew) (l.take n) a) : (Code.region id l.toArray true).wp P Q a w := wp_region_still_tail n hm hB h
theorem insert_no (base g b most : Nat) (ns : List N) (ord : List Nat) (k : ByteArray) (s c : Int) (x : Int) (h : Int) (w : World) (H : SL w base g b most ns ord) (hbase : base ≤ w.heap.size) (hk : k.size ≤ maxLen) (hE : insE most ns ord k s c h ≠ 0) :
    Calls Try.prog 18 #[.pointer (some ⟨g, 0, none⟩), .agg #[.string k, .int .u64 s, .int .i64 c], .int .i64 x, .int .i64 h] w fun e w' => e = .returned (.int .i64 (insE most ns ord k s c h)) ∧ Below w.heap.size w w' := by
  unfold insE at *
  by_cases h1 : vld k s c = false
  · rw [if_pos h1]; exact insert_key base g b most ns ord k s c x h w H hbase hk h1
  · have h1' : vld k s c = true := by simpa using h1
    rw [if_neg h1] at hE ⊢
    by_cases h2 : h < 1 ∨ 12 < h
    · rw [if_pos h2]; exact insert_arg base g b most ns ord k s c x h w H hbase hk h1' h2
    · rw [if_neg h2] at hE ⊢
      obtain ⟨m, rfl⟩ : ∃ m : Nat, h = m := ⟨h.toNat, by omega⟩
      by_cases h3 : thr ns ord (ik k s c) = true
      · rw [if_pos h3]; exact insert_there base g b most ns ord k s c x m w H hbase hk h1' (by omega) h3
      · have h3' : thr ns ord (ik k s c) = false := by simpa using h3
        rw [if_neg h3] at hE ⊢
        by_cases h4 : ns.length = most
        · rw [if_pos h4]; exact insert_full base g b most ns ord k s c x m w H hbase hk h1' (by omega) h3' h4
        · rw [if_neg h4] at hE; exact absurd rfl hE
theorem insE_zero {most : Nat} {ns : List N} {ord : List Nat} {k : ByteArray} {s c h : Int} (hE : insE most ns ord k s c h = 0) : vld k s c = true ∧ (1 ≤ h ∧ h ≤ 12) ∧ thr ns ord (ik k s c) = false ∧ ns.length ≠ most := by
  unfold insE at hE
  by_cases h1 : vld k s c = false
  · rw [if_pos h1] at hE; cases hE
  · rw [if_neg h1] at hE
    by_cases h2 : h < 1 ∨ 12 < h
    · rw [if_pos h2] at hE; cases hE
    · rw [if_neg h2] at hE
      by_cases h3 : thr ns ord (ik k s c) = true
      · rw [if_pos h3] at hE; cases hE
      · rw [if_neg h3] at hE
        by_cases h4 : ns.length = most
        · rw [if_pos h4] at hE; cases hE
        · exact ⟨by simpa using h1, by omega, by simpa using h3, h4⟩
theorem insert_yes (base g b most : Nat) (ns : List N) (ord : List Nat) (k : ByteArray) (s c : Int) (x : Int) (h : Int) (w : World) (H : SL w base g b most ns ord) (hbase : base ≤ w.heap.size) (hk : k.size ≤ maxLen) (hE : insE most ns ord k s c h = 0) :
    Calls Try.prog 18 #[.pointer (some ⟨g, 0, none⟩), .agg #[.string k, .int .u64 s, .int .i64 c], .int .i64 x, .int .i64 h] w fun e w' => e = .returned (.int .i64 0) ∧ Fr g b w w' ∧ ∃ b', (b' = b ∨ w.heap.size ≤ b') ∧ SL w' base g b' most (ns ++ [⟨k, s, c, .int .i64 x, h.toNat⟩]) (ordI ns ord (ik k s c) (ns.length + 1)) := by
  obtain ⟨h1, h2, h3, h4⟩ := insE_zero hE
  obtain ⟨m, rfl⟩ : ∃ m : Nat, h = m := ⟨h.toNat, by omega⟩
  rw [Int.toNat_natCast]
  exact insert_ok base g b most ns ord k s c x m w H hbase hk h1 (by omega) h3 h4
/-! ### The law's puts -/
structure P4 where
  k : ByteArray
  s : Int
  c : Int
  h : Int
def zp : P4 := ⟨⟨#[]⟩, 0, 0, 0⟩
def P4.ok (x : P4) : Prop := x.k.size ≤ maxLen ∧ (-9223372036854775808 ≤ x.h ∧ x.h ≤ 9223372036854775807)
def At4 (w : World) (b o : Nat) (x : P4) : Prop := w.cell? ⟨b, o, none⟩ = some (.string x.k) ∧ w.cell? ⟨b, o + 1, none⟩ = some (.int .u64 x.s) ∧ w.cell? ⟨b, o + 2, none⟩ = some (.int .i64 x.c) ∧ w.cell? ⟨b, o + 3, none⟩ = some (.int .i64 x.h)
theorem cell_keep {w w' : World} {n b o : Nat} {v : Value} (hb : Below n w w') (hn : b < n) (h : w.cell? ⟨b, o, none⟩ = some v) : w'.cell? ⟨b, o, none⟩ = some v := (World.cell?_of_block (a := ⟨b, o, none⟩) (hb.block b hn)).trans h
theorem At4.later {w w' : World} {b o : Nat} {x : P4} (h : At4 w b o x) (hb : Below w.heap.size w w') : At4 w' b o x :=
  ⟨cell_keep hb (block_lt_of_cell h.1) h.1, cell_keep hb (block_lt_of_cell h.2.1) h.2.1, cell_keep hb (block_lt_of_cell h.2.2.1) h.2.2.1, cell_keep hb (block_lt_of_cell h.2.2.2) h.2.2.2⟩
/-- A slice of puts that can be read. -/
def Puts (w : World) (a : Option Addr) (len cap : Nat) (xs : List P4) : Prop :=
  xs.length = len ∧ len ≤ cap ∧ (a = none → len = 0 ∧ cap = 0) ∧ (∀ x ∈ xs, x.ok) ∧ (∀ b o p, a = some ⟨b, o, p⟩ → 0 < len → p = none ∧ ∀ i, i < len → At4 w b (o + i * 4) (xs.getD i zp))
theorem Puts.later {w w' : World} {a : Option Addr} {len cap : Nat} {xs : List P4} (h : Puts w a len cap xs) (hb : Below w.heap.size w w') : Puts w' a len cap xs :=
  ⟨h.1, h.2.1, h.2.2.1, h.2.2.2.1, fun b o p hp hl => ⟨(h.2.2.2.2 b o p hp hl).1, fun i hi => ((h.2.2.2.2 b o p hp hl).2 i hi).later hb⟩⟩
/-- What the law has made of the first n of them. -/
structure S3 where
  ns : List N
  ord : List Nat
  tk : List Nat
def hgt (more h : Int) : Int := 1 + IntKind.i64.wrap (h + more) % 12
def stp (more : Int) (t : S3) (i : Nat) (p : P4) : S3 :=
  if insE 1048576 t.ns t.ord p.k p.s p.c (hgt more p.h) = 0 then ⟨t.ns ++ [⟨p.k, p.s, p.c, .int .i64 (i : Int), (hgt more p.h).toNat⟩], ordI t.ns t.ord (ik p.k p.s p.c) (t.ns.length + 1), t.tk ++ [i]⟩ else t
def mk (more : Int) (ps : List P4) : Nat → S3
  | 0 => ⟨[], [], []⟩
  | n + 1 => stp more (mk more ps n) n (ps.getD n zp)
theorem stp_len {more : Int} {t : S3} {i : Nat} {p : P4} (h : t.tk.length = t.ns.length) (h2 : t.ns.length ≤ 1048576) : (stp more t i p).tk.length = (stp more t i p).ns.length ∧ (stp more t i p).ns.length ≤ 1048576 := by
  unfold stp
  split
  · rename_i hE
    have := (insE_zero hE).2.2.2
    simp; omega
  · exact ⟨h, h2⟩
theorem mk_len (more : Int) (ps : List P4) : ∀ n, (mk more ps n).tk.length = (mk more ps n).ns.length ∧ (mk more ps n).ns.length ≤ 1048576
  | 0 => ⟨rfl, by simp [mk]⟩
  | n + 1 => stp_len (mk_len more ps n).1 (mk_len more ps n).2
theorem row_fr {w w' : World} {g b base : Nat} {v : Value} {xs : List Int} {most h n cap : Nat} (O : OwnZ w base v xs) (F : Fr g b w w') (hg : ∃ c f, w.heap[g]? = some (.cells c 60 f)) (hb : ∃ c f, w.heap[b]? = some (.cells c 96 f)) : OwnZ w' base v xs := by
  rcases O.2 with ⟨e, h0⟩ | ⟨q, cap', cur, e, hq, hgq, rest⟩
  · exact ⟨O.1, .inl ⟨e, h0⟩⟩
  · refine ⟨O.1, .inr ⟨q, cap', cur, e, hq, ?_, rest⟩⟩
    obtain ⟨c1, f1, e1⟩ := hg
    obtain ⟨c2, f2, e2⟩ := hb
    rw [F.block q (blk_lt hgq) ?_ ?_]
    · exact hgq
    · rintro rfl; rw [hgq] at e1; simp at e1
    · rintro rfl; rw [hgq] at e2; simp at e2
theorem SL.gblk {w : World} {base g b most : Nat} {ns : List N} {ord : List Nat} (H : SL w base g b most ns ord) : ∃ c f, w.heap[g]? = some (.cells c 60 f) := by
  obtain ⟨cap, tw, h, _⟩ := H; exact ⟨_, _, h.hd⟩
theorem SL.bblk {w : World} {base g b most : Nat} {ns : List N} {ord : List Nat} (H : SL w base g b most ns ord) : ∃ c f, w.heap[b]? = some (.cells c 96 f) := by
  obtain ⟨cap, tw, h, _⟩ := H
  obtain ⟨cur, h1, _⟩ := h.rw
  exact ⟨_, _, h1⟩
theorem SL.bases {w : World} {base g b most : Nat} {ns : List N} {ord : List Nat} (H : SL w base g b most ns ord) : base ≤ g ∧ base ≤ b ∧ g < w.heap.size ∧ b < w.heap.size ∧ ns.length ≤ most ∧ most ≤ 1048576 ∧ ord.length = ns.length := by
  obtain ⟨cap, tw, h, G, _⟩ := H
  exact ⟨h.bg, h.bb, h.hd.lt, h.rw.lt, h.ln, h.m2, G.len⟩
theorem SL.kept {w w' : World} {base g b most : Nat} {ns : List N} {ord : List Nat} {row : Option Nat} (H : SL w base g b most ns ord) (k : w.grownBy w' row) (hr : ∀ j, row = some j → ∃ c t f, w.heap[j]? = some (.cells c t f) ∧ t ≠ 60 ∧ t ≠ 96) : SL w' base g b most ns ord := by
  have hg := SL.gblk H
  have hb := SL.bblk H
  obtain ⟨cap, tw, h, G, L⟩ := H
  have ng : some g ≠ row := by
    intro e
    obtain ⟨c, t, f, h1, h2, _⟩ := hr g e.symm
    obtain ⟨c', f', h'⟩ := hg
    rw [h'] at h1
    simp at h1
    exact h2 h1.2.1.symm
  have nb : some b ≠ row := by
    intro e
    obtain ⟨c, t, f, h1, _, h2⟩ := hr b e.symm
    obtain ⟨c', f', h'⟩ := hb
    rw [h'] at h1
    simp at h1
    exact h2 h1.2.1.symm
  have hg1 : w'.heap[g]? = w.heap[g]? := k.block g h.hd.lt ng
  have hb1 : w'.heap[b]? = w.heap[b]? := k.block b h.rw.lt nb
  obtain ⟨cur, r1, r2⟩ := h.rw
  exact ⟨cap, tw, ⟨hg1.trans h.hd, ⟨cur, hb1.trans r1, r2⟩, h.bg, h.bb, h.ne, h.m1, h.m2, h.ln, h.tl⟩, G, L⟩
set_option maxHeartbeats 4000000 in
set_option maxRecDepth 100000 in
theorem made_any (a : Option Addr) (len cap : Nat) (ps : List P4) (more : Int) (w : World) (H : Puts w a len cap ps) (hmore : 0 ≤ more ∧ more ≤ 1000) (hlen : len ≤ 140737488355328) :
    Calls Try.prog 34 #[.slice a len cap, .int .i64 more] w fun e w' => ∃ v, e = .returned (.tuple #[.pointer (some ⟨w.heap.size + 1, 0, none⟩), v]) ∧ (∃ b, SL w' w.heap.size (w.heap.size + 1) b 1048576 (mk more ps len).ns (mk more ps len).ord) ∧ OwnZ w' w.heap.size v (zi (mk more ps len).tk) ∧ Below w.heap.size w w' := by
  have HN := hid (new_ok 1048576 w (by omega) (by omega))
  have HH := hid H
  clear H
  go_enter Try.func34, Try.ntmps34
  go_wp2_with fail
  refine HN.out.mono ?_
  rintro e w1 ⟨rfl, S1, B1⟩
  clear HN
  replace S1 := hid S1
  replace B1 := hid B1
  go_wp2_with fail
  go_loopw [8, 9] (fun v iv wr => ∃ (n b : Nat), n ≤ len ∧ iv = .int .i64 (n : Int) ∧ Hid (SL wr w.heap.size (w.heap.size + 1) b 1048576 (mk more ps n).ns (mk more ps n).ord) ∧ Hid (OwnZ wr w.heap.size v (zi (mk more ps n).tk)) ∧ Hid (Below w.heap.size w wr)) (fun _ iv _ => len - (intOf iv).toNat)
  case atStart => exact ⟨0, w.heap.size, Nat.zero_le _, rfl, S1, OwnZ.nil _ _, B1⟩
  case round =>
    obtain ⟨n, b, hn, rfl, HS, HO, HB⟩ := hrel
    by_cases hlt : n < len
    · obtain ⟨ad, rfl⟩ : ∃ ad, a = some ad := by
        cases a with
        | none => have := (HH.out.2.2.1 rfl).1; omega
        | some ad => exact ⟨ad, rfl⟩
      obtain ⟨pb, po, psp⟩ := ad
      obtain ⟨hsp, hat⟩ := HH.out.2.2.2.2 pb po psp rfl (by omega)
      subst hsp
      obtain ⟨c0, c1, c2, c3⟩ := (hat n hlt).later HB.out
      clear hat
      have hok : (ps.getD n zp).ok := HH.out.2.2.2.1 _ (by rw [List.getD_eq_getElem?_getD, List.getElem?_eq_getElem (by rw [HH.out.1]; exact hlt)]; exact List.getElem_mem _)
      have hstp : mk more ps (n + 1) = stp more (mk more ps n) n (ps.getD n zp) := rfl
      have hml := mk_len more ps n
      generalize ps.getD n zp = p at *
      obtain ⟨pk, ps', pc, ph⟩ := p
      have i1 : (n : Int) < (len : Int) := by omega
      have HAm : Hid (∀ W, Calls Try.prog 12 #[.int .i64 (IntKind.i64.wrap (ph + more)), .int .i64 12] W fun e w' => e = .returned (.int .i64 (IntKind.i64.wrap (ph + more) % 12)) ∧ w' = W) := fun W => among_any _ 12 W (by omega)
      have hr1 : 0 ≤ IntKind.i64.wrap (ph + more) % 12 := by omega
      have hr2 : IntKind.i64.wrap (ph + more) % 12 < 12 := by omega
      have hgtE : Hid (hgt more ph = 1 + IntKind.i64.wrap (ph + more) % 12) := rfl
      simp only at c0 c1 c2 c3 hok
      have hpk := hok.1
      replace hstp := hid hstp
      by_cases hE : insE 1048576 (mk more ps n).ns (mk more ps n).ord pk ps' pc (hgt more ph) = 0
      · have hst2 : Hid (mk more ps (n + 1) = ⟨(mk more ps n).ns ++ [⟨pk, ps', pc, .int .i64 (n : Int), (hgt more ph).toNat⟩], ordI (mk more ps n).ns (mk more ps n).ord (ik pk ps' pc) ((mk more ps n).ns.length + 1), (mk more ps n).tk ++ [n]⟩) := by
          show _ = _
          rw [hstp.out]; unfold stp; exact if_pos hE
        have HI : Hid (∀ W, SL W w.heap.size (w.heap.size + 1) b 1048576 (mk more ps n).ns (mk more ps n).ord → w.heap.size ≤ W.heap.size → Calls Try.prog 18 #[.pointer (some ⟨w.heap.size + 1, 0, none⟩), .agg #[.string pk, .int .u64 ps', .int .i64 pc], .int .i64 (n : Int), .int .i64 (1 + IntKind.i64.wrap (ph + more) % 12)] W fun e w' => e = .returned (.int .i64 0) ∧ Fr (w.heap.size + 1) b W w' ∧ ∃ b', (b' = b ∨ W.heap.size ≤ b') ∧ SL w' w.heap.size (w.heap.size + 1) b' 1048576 ((mk more ps n).ns ++ [⟨pk, ps', pc, .int .i64 (n : Int), (hgt more ph).toNat⟩]) (ordI (mk more ps n).ns (mk more ps n).ord (ik pk ps' pc) ((mk more ps n).ns.length + 1))) := fun W hW hs => insert_yes _ _ b _ _ _ pk ps' pc (n : Int) (hgt more ph) W hW hs hpk hE
        generalize hmk2 : IntKind.i64.wrap (ph + more) % 12 = hr at *
        have HI2 := hid (HI.out wr.drew (HS.out.later (Below.refl _ _).drew) HB.out.size)
        clear hE hok hmk2
        go_wp2_with fail
        refine region_tail 19 (by kernel_rfl) (by kernel_rfl) ?_
        simp only [List.take_succ_cons, List.take_zero, List.drop_succ_cons, List.drop_zero]
        repeat still_step
        still_call (HAm.out _)
        still_step
        refine wpStill_nil ?_
        go_wp2_with fail
        refine HI2.out.mono ?_
        rintro e w2 ⟨rfl, F2, b', hb', S2⟩
        have O2 : OwnZ w2 w.heap.size u8 (zi (mk more ps n).tk) := row_fr (most := 0) (h := 0) (n := 0) (cap := 0) (HO.out.later (Below.refl _ _).drew) F2 (SL.gblk (HS.out.later (Below.refl _ _).drew)) (SL.bblk (HS.out.later (Below.refl _ _).drew))
        have B2 : Below w.heap.size w w2 := (HB.out.drew).trans (F2.base (by omega) (SL.bases HS.out).2.1 HB.out.size)
        have z2 := B2.size
        obtain ⟨v5, W5, r5, O5, g5⟩ := app_int w2 w.heap.size u8 _ (n : Int) O2 (by rw [zi_len]; omega) z2
        have B5 := B2.grown g5 z2 (fun k hk => (World.ownsRow.lt O2 k hk).1)
        have hrow : ∀ k, u8.ownBlock = some k → ∃ c t f, w2.heap[k]? = some (.cells c t f) ∧ t = 3 := fun k hk => by
          obtain ⟨c, f, h⟩ := row_blk O2 k hk
          exact ⟨c, _, f, h, rfl⟩
        have S5 : SL W5 w.heap.size (w.heap.size + 1) b' 1048576 (mk more ps (n + 1)).ns (mk more ps (n + 1)).ord := by
          rw [hst2.out]
          exact SL.kept S2 g5 (fun k hk => by obtain ⟨c, t, f, h, e⟩ := hrow k hk; exact ⟨c, t, f, h, by rw [e]; decide, by rw [e]; decide⟩)
        have O6 : OwnZ W5 w.heap.size v5 (zi (mk more ps (n + 1)).tk) := by rw [hst2.out]; show OwnZ _ _ _ (zi (_ ++ [n])); rw [zi_append]; exact O5
        replace r5 := hid r5
        replace S5 := hid S5
        replace O6 := hid O6
        replace B5 := hid B5
        clear S2 F2 O2 B2 O5 g5 hrow HI HI2 hb'
        go_wp2_with (at_builtin; refine wpList_append_run rfl _ _ _ _ rfl _ _ _ rfl rfl r5.out ?_)
        refine ⟨⟨n + 1, b', by omega, by simp, S5, O6, B5⟩, ?_⟩
        simp only [intOf]; omega
      · have hst2 : Hid (mk more ps (n + 1) = mk more ps n) := by
          show _ = _
          rw [hstp.out]; unfold stp; exact if_neg hE
        have HI : Hid (∀ W, SL W w.heap.size (w.heap.size + 1) b 1048576 (mk more ps n).ns (mk more ps n).ord → w.heap.size ≤ W.heap.size → Calls Try.prog 18 #[.pointer (some ⟨w.heap.size + 1, 0, none⟩), .agg #[.string pk, .int .u64 ps', .int .i64 pc], .int .i64 (n : Int), .int .i64 (1 + IntKind.i64.wrap (ph + more) % 12)] W fun e w' => e = .returned (.int .i64 (insE 1048576 (mk more ps n).ns (mk more ps n).ord pk ps' pc (hgt more ph))) ∧ Below W.heap.size W w') := fun W hW hs => insert_no _ _ b _ _ _ pk ps' pc (n : Int) (hgt more ph) W hW hs hpk hE
        generalize hmk2 : IntKind.i64.wrap (ph + more) % 12 = hr at *
        have hne : (insE 1048576 (mk more ps n).ns (mk more ps n).ord pk ps' pc (hgt more ph) == 0) = false := by simpa using hE
        generalize insE 1048576 (mk more ps n).ns (mk more ps n).ord pk ps' pc (hgt more ph) = E at *
        have HI2 := hid (HI.out wr.drew (HS.out.later (Below.refl _ _).drew) HB.out.size)
        clear hE hok hmk2
        go_wp2_with fail
        refine region_tail 19 (by kernel_rfl) (by kernel_rfl) ?_
        simp only [List.take_succ_cons, List.take_zero, List.drop_succ_cons, List.drop_zero]
        repeat still_step
        still_call (HAm.out _)
        still_step
        refine wpStill_nil ?_
        go_wp2_with fail
        refine HI2.out.mono ?_
        rintro e w2 ⟨rfl, b2⟩
        have bd : Below wr.heap.size wr wr.drew := (Below.refl _ _).drew
        have S2 : Hid (SL w2 w.heap.size (w.heap.size + 1) b 1048576 (mk more ps (n + 1)).ns (mk more ps (n + 1)).ord) := by rw [hst2.out]; exact (HS.out.later bd).later b2
        have O2 : Hid (OwnZ w2 w.heap.size u8 (zi (mk more ps (n + 1)).tk)) := by rw [hst2.out]; exact (HO.out.later bd).later b2
        have B2 : Hid (Below w.heap.size w w2) := HB.out.drew.trans (b2.mono HB.out.size)
        clear b2 bd HI HI2
        go_wp2_with fail
        refine ⟨⟨n + 1, b, by omega, by simp, S2, O2, B2⟩, ?_⟩
        simp only [intOf]; omega
    · have en : n = len := by omega
      subst en
      have i1 : ¬ (n : Int) < (n : Int) := by omega
      go_wp2_with fail
      go_ret2
      exact ⟨_, rfl, ⟨b, HS.out⟩, HO.out, HB.out⟩
end Go.Proofs.Ythnmoidfdojoiaa.Pu
