/- The law's steps; filled: a memtable with operations. -/
import Derived.Test.YtefihoohdaegeaaWk
namespace Go.Proofs.Ytefihoohdaegeaa.Fl
open Go.ChangeShapes Go.WideShapes Go.ChangeAt Go.RowKit Go.Shelf
open Go.Sort (grow)
open Go.Proofs.Ytefihoohdaegeaa.Lx (hid)
open Go.Proofs.Ytefihoohdaegeaa.Ee (E ze)
open Go.Proofs.Ytefihoohdaegeaa.Nw (c4)
open Go.Proofs.Ytefihoohdaegeaa.Fm
open Go.Proofs.Ytefihoohdaegeaa.Tb
open Go.Proofs.Ytefihoohdaegeaa.Ad
open Go.Proofs.Ytefihoohdaegeaa.Ae
open Go.Proofs.Ytefihoohdaegeaa.Pt (region_tail)
open Go.Proofs.Ytefihoohdaegeaa.Wk
open Go.Proofs.Ytefihoohdaegeaa.Mm (box_below)
open Go.Proofs.Ytefihoohdaegeaa.Tr (new_at cell_of size_alloc blk_lt set_of)
set_option linter.unusedVariables false
set_option linter.unusedSimpArgs false

/-- A step of the law. -/
structure A6 where
  kd : Int
  ht : Int
  sq : Int
  c : Int
  k : ByteArray
  v : ByteArray
def za : A6 := ⟨0, 0, 0, 0, ⟨#[]⟩, ⟨#[]⟩⟩
def A6.ok (x : A6) : Prop := x.k.size ≤ maxLen ∧ x.v.size ≤ maxLen ∧ (0 ≤ x.sq ∧ x.sq ≤ 18446744073709551615) ∧ (-9223372036854775808 ≤ x.ht ∧ x.ht ≤ 9223372036854775807) ∧ (-9223372036854775808 ≤ x.kd ∧ x.kd ≤ 9223372036854775807)
def At6 (w : World) (b o : Nat) (x : A6) : Prop := w.cell? ⟨b, o, none⟩ = some (.int .i64 x.kd) ∧ w.cell? ⟨b, o + 1, none⟩ = some (.int .i64 x.ht) ∧ w.cell? ⟨b, o + 2, none⟩ = some (.int .u64 x.sq) ∧ w.cell? ⟨b, o + 3, none⟩ = some (.int .i64 x.c) ∧ w.cell? ⟨b, o + 4, none⟩ = some (.string x.k) ∧ w.cell? ⟨b, o + 5, none⟩ = some (.string x.v)
theorem At6.later {w w' : World} {n b o : Nat} {x : A6} (h : At6 w b o x) (hn : b < n) (hb : Below n w w') : At6 w' b o x := by
  have e : ∀ q, w'.cell? ⟨b, q, none⟩ = w.cell? ⟨b, q, none⟩ := fun q => World.cell?_of_block (a := ⟨b, q, none⟩) (hb.block b hn)
  exact ⟨(e _).trans h.1, (e _).trans h.2.1, (e _).trans h.2.2.1, (e _).trans h.2.2.2.1, (e _).trans h.2.2.2.2.1, (e _).trans h.2.2.2.2.2⟩
theorem At6.lt {w : World} {b o : Nat} {x : A6} (h : At6 w b o x) : b < w.heap.size := block_lt_of_cell h.1
/-- A slice of steps. -/
def Acts (w : World) (a : Option Addr) (len cap : Nat) (xs : List A6) : Prop :=
  xs.length = len ∧ len ≤ cap ∧ (a = none → len = 0 ∧ cap = 0) ∧ (∀ x ∈ xs, x.ok) ∧ (∀ b o p, a = some ⟨b, o, p⟩ → 0 < len → p = none ∧ ∀ i, i < len → At6 w b (o + i * 6) (xs.getD i za))
theorem Acts.later {w w' : World} {a : Option Addr} {len cap : Nat} {xs : List A6} (h : Acts w a len cap xs) (hb : Below w.heap.size w w') : Acts w' a len cap xs :=
  ⟨h.1, h.2.1, h.2.2.1, h.2.2.2.1, fun b o p hp hl => ⟨(h.2.2.2.2 b o p hp hl).1, fun i hi => by
    have := (h.2.2.2.2 b o p hp hl).2 i hi
    exact this.later this.lt hb⟩⟩
theorem take_snoc {xs : List A6} {k : Nat} (h : k < xs.length) : xs.take (k + 1) = xs.take k ++ [xs.getD k za] := by
  rw [List.take_succ_eq_append_getElem h, List.getD_eq_getElem?_getD, List.getElem?_eq_getElem h]
  rfl
theorem get_mem {xs : List A6} {k : Nat} (h : k < xs.length) : xs.getD k za ∈ xs := by
  rw [List.getD_eq_getElem?_getD, List.getElem?_eq_getElem h]
  exact List.getElem_mem h

def hgt (more ht : Int) : Int := 1 + IntKind.i64.wrap (ht + more) % 12
def stp (more : Int) (F : St × List Bool) (x : A6) : St × List Bool := (adS F.1 x.sq x.c x.k x.v (hgt more x.ht), F.2 ++ [adE F.1 x.sq x.c x.k x.v (hgt more x.ht) == 0])
/-- What filled makes. -/
def fil (more : Int) (xs : List A6) : St × List Bool := xs.foldl (stp more) (St.new 1, [])
theorem fil_snoc (more : Int) (xs : List A6) (x : A6) : fil more (xs ++ [x]) = stp more (fil more xs) x := by unfold fil; rw [List.foldl_append]; rfl
theorem fold_len (more : Int) : ∀ (xs : List A6) (F : St × List Bool), (xs.foldl (stp more) F).2.length = F.2.length + xs.length
  | [], F => rfl
  | x :: l, F => by
    rw [List.foldl_cons, fold_len more l]
    unfold stp
    simp; omega
theorem fil_len (more : Int) (n : Nat) (xs : List A6) (h : xs.length = n) : (fil more xs).2.length = n := by
  unfold fil; rw [fold_len, h]; simp
theorem adS_ts (S : St) (q c : Int) (k v : ByteArray) (h : Int) : (adS S q c k v h).ts.length ≤ S.ts.length + 1 := by
  unfold adS
  split
  · omega
  · split
    · show (S.ts ++ [_]).length ≤ _; simp
    · show S.ts.length ≤ _; omega
theorem fold_ts (more : Int) : ∀ (xs : List A6) (F : St × List Bool), (xs.foldl (stp more) F).1.ts.length ≤ F.1.ts.length + xs.length
  | [], F => Nat.le_refl _
  | x :: l, F => by
    rw [List.foldl_cons]
    have h1 := fold_ts more l (stp more F x)
    have h2 := adS_ts F.1 x.sq x.c x.k x.v (hgt more x.ht)
    have h3 : (stp more F x).1.ts.length ≤ F.1.ts.length + 1 := h2
    simp only [List.length_cons]
    omega
theorem fil_ts (more : Int) (n : Nat) (xs : List A6) (h : xs.length = n) : (fil more xs).1.ts.length ≤ n := by
  have := fold_ts more xs (St.new 1, [])
  rw [h] at this
  have h2 : (St.new 1, ([] : List Bool)).1.ts.length = 0 := rfl
  unfold fil
  omega
def bools (l : List Bool) : Array Value := (l.map Value.bool).toArray
/-- A row of answers. -/
def Br (w : World) (g : Nat) (l : List Bool) : Prop := w.heap[g]? = some (.cells (bools l) 4)
theorem Br.cell {w : World} {g : Nat} {l : List Bool} (h : Br w g l) (i : Nat) (hi : i < l.length) : w.cell? ⟨g, i, none⟩ = some (.bool (l.getD i false)) := by
  refine cell_of h i _ ?_
  unfold bools
  rw [List.getElem?_toArray, List.getElem?_map, List.getElem?_eq_getElem hi, List.getD_eq_getElem?_getD, List.getElem?_eq_getElem hi]
  rfl
theorem Br.fz {w : World} {g : Nat} {l : List Bool} (h : Br w g l) (i : Nat) : w.frozen? ⟨g, i, none⟩ = false := Tr.fz_of h i
theorem Br.lt {w : World} {g : Nat} {l : List Bool} (h : Br w g l) : g < w.heap.size := blk_lt h
theorem Br.set {w : World} {g : Nat} {p : List Bool} {n : Nat} (h : Br w g (p ++ List.replicate (n + 1) false)) (b : Bool) : Br (w.setCell ⟨g, p.length, none⟩ (.bool b)) g ((p ++ [b]) ++ List.replicate n false) := by
  have := set_of h p.length (.bool b)
  unfold Br
  rw [this]
  congr 2
  apply Array.ext'
  unfold bools
  simp [List.replicate_succ, List.set_append]
theorem infoB : (Try.prog.info? 4).map (fun i => (i.zero, i.size, i.bytes)) = some (some (.bool false), 1, 1) := by kernel_rfl
theorem make_bools (w : World) (n : Nat) (hn : n ≤ 140737488355328) : (Instr.makeSlice 99 (.int .i64 (n : Int)) (.int .i64 (n : Int))).run Try.prog w = .ok (.slice (some ⟨w.heap.size, 0, none⟩) n n) (w.alloc (.cells (bools (List.replicate n false)) 4)) := by
  obtain ⟨i0, hi, hz0, hz1, hz2⟩ := info_parts infoB
  have hr := run_make (P := Try.prog) w 99 4 i0 _ Try.underlying99 hi hz0 .i64 .i64 (n : Int) (n : Int) (by omega) (by omega) (by rw [hz2]; omega) (by omega)
  rw [hz1] at hr
  have he : madeCells (Value.bool false).cells ((n : Int).toNat * 1) = bools (List.replicate n false) := by
    apply Array.ext'
    unfold bools
    have := toList_madeCells_one (.bool false) n
    rw [show (Value.bool false).cells = #[.bool false] from rfl, Int.toNat_natCast, Nat.mul_one, this]
    simp
  rw [he] at hr
  simpa using hr
set_option maxHeartbeats 4000000 in
set_option maxRecDepth 100000 in
theorem filled_any (a : Option Addr) (len cap : Nat) (xs : List A6) (more : Int) (w : World) (H : Acts w a len cap xs) (hlen : len ≤ 2199023255552) :
    Calls Try.prog 44 #[.slice a len cap, .int .i64 more] w fun e w' => ∃ g gb P, e = .returned (.tuple #[.pointer (some ⟨g, 0, none⟩), .slice (some ⟨gb, 0, none⟩) len len]) ∧ Tb.Tb w' w.heap.size g P (fil more xs).1 ∧ Br w' gb (fil more xs).2 ∧ ¬ P gb ∧ w.heap.size ≤ gb ∧ Below w.heap.size w w' := by
  have HN := hid (new_any 1 w)
  have hmk : ∀ w : World, (Instr.makeSlice 99 (.int .i64 (len : Int)) (.int .i64 (len : Int))).run Try.prog w = .ok (.slice (some ⟨w.heap.size, 0, none⟩) len len) (w.alloc (.cells (bools (List.replicate len false)) 4)) := fun w => make_bools w len (by omega)
  have HH := hid H
  have hxl : xs.length = len := H.1
  clear H
  go_enter Try.func44, Try.ntmps44
  go_wp2_with fail
  refine HN.out.mono ?_
  rintro e w1 ⟨g, P1, rfl, T1, B1⟩
  obtain ⟨gb, hgb⟩ : ∃ n, n = w1.heap.size := ⟨_, rfl⟩
  obtain ⟨W2, hW2⟩ : ∃ W, W = w1.alloc (.cells (bools (List.replicate len false)) 4) := ⟨_, rfl⟩
  have b2 : Below w1.heap.size w1 W2 := by rw [hW2]; exact box_below _ _
  have r2 : Br W2 gb (List.replicate len false) := by rw [hW2, hgb]; exact new_at _ _
  have T2 := hid (T1.later b2)
  have B2 := hid (B1.trans (b2.mono B1.size))
  have nP : Hid (¬ P1 gb) := fun h => by have := (T1.low gb h).2; omega
  have hgb0 : Hid (w.heap.size ≤ gb) := by show _ ≤ _; rw [hgb]; exact B1.size
  replace r2 := hid r2
  replace hW2 := hid hW2
  replace hgb := hid hgb
  clear T1 B1 b2 HN
  go_wp2_with fail
  rw [← hW2.out, ← hgb.out]
  clear hW2 hgb hmk
  go_loopw [8] (fun iv wr => ∃ (n : Nat) (P : Nat → Prop), n ≤ len ∧ iv = .int .i64 (n : Int) ∧ Hid (Tb.Tb wr w.heap.size g P (fil more (xs.take n)).1) ∧ Hid (Br wr gb ((fil more (xs.take n)).2 ++ List.replicate (len - n) false)) ∧ Hid (¬ P gb) ∧ Hid (Below w.heap.size w wr))
    (fun iv _ => len - (intOf iv).toNat)
  case atStart => exact ⟨0, P1, Nat.zero_le _, rfl, T2, r2, nP, B2⟩
  case round =>
    obtain ⟨n, P, hn, rfl, HT, HR, HP, HB⟩ := hrel
    by_cases hlt : n < len
    · obtain ⟨ad, rfl⟩ : ∃ ad, a = some ad := by
        cases a with
        | none => have := (HH.out.2.2.1 rfl).1; omega
        | some ad => exact ⟨ad, rfl⟩
      obtain ⟨pb, po, psp⟩ := ad
      obtain ⟨hsp, hat⟩ := HH.out.2.2.2.2 pb po psp rfl (by omega)
      subst hsp
      obtain ⟨c0, c1, c2, c3, c4', c5⟩ := (hat n hlt).later (hat n hlt).lt HB.out
      have hok : (xs.getD n za).ok := HH.out.2.2.2.1 _ (get_mem (by omega))
      have hfs := fil_snoc more (xs.take n) (xs.getD n za)
      rw [← take_snoc (by omega)] at hfs
      have htl := fil_ts more n (xs.take n) (by rw [List.length_take]; omega)
      have hbl := fil_len more n (xs.take n) (by rw [List.length_take]; omega)
      obtain ⟨x, hxx⟩ : ∃ x, xs.getD n za = x := ⟨_, rfl⟩
      rw [hxx] at c0 c1 c2 c3 c4' c5 hok hfs
      obtain ⟨xkd, xht, xsq, xc, xk, xv⟩ := x
      unfold stp at hfs
      dsimp only at c1 c2 c3 c4' c5 hok hfs
      obtain ⟨hk1, hk2, hk3, _, _⟩ := hok
      dsimp only at hk1 hk2 hk3
      have i1 : (n : Int) < (len : Int) := by omega
      have HAm : Hid (∀ W, Calls Try.prog 11 #[.int .i64 (IntKind.i64.wrap (xht + more)), .int .i64 12] W fun e w' => e = .returned (.int .i64 (IntKind.i64.wrap (xht + more) % 12)) ∧ w' = W) := fun W => among_any _ 12 W (by omega)
      have hr1 : 0 ≤ IntKind.i64.wrap (xht + more) % 12 := by omega
      have hr2 : IntKind.i64.wrap (xht + more) % 12 < 12 := by omega
      have hgtE : hgt more xht = 1 + IntKind.i64.wrap (xht + more) % 12 := rfl
      rw [hgtE] at hfs
      generalize IntKind.i64.wrap (xht + more) % 12 = hr at *
      have HAT0 := (hat n hlt).later (hat n hlt).lt HB.out
      rw [hxx] at HAT0
      have hpb : Hid (pb < w.heap.size) := (hat n hlt).lt
      clear hat
      have hw1 : Hid (IntKind.i64.wrap (1 + hr) = 1 + hr) := by show _ = _; rw [IntKind.wrap_i64]; omega
      obtain ⟨D, hD⟩ : ∃ D, D = World.drew wr := ⟨_, rfl⟩
      have cd : Below wr.heap.size wr D := by rw [hD]; exact (Below.refl _ _).drew
      have HTD := HT.out.later cd
      have HAT : Hid (At6 D pb (po + n * 6) ⟨xkd, xht, xsq, xc, xk, xv⟩) := by rw [hD]; exact HAT0
      have HRD : Hid (Br D gb ((fil more (xs.take n)).2 ++ List.replicate (len - n) false)) := by rw [hD]; exact HR.out
      have HBD : Hid (Below w.heap.size w D) := by rw [hD]; exact HB.out.drew
      have HAd := hid (add_any w.heap.size g P (fil more (xs.take n)).1 xsq xc xk xv (1 + hr) D HTD HBD.out.size hk1 hk2 (by omega))
      have hgl : Hid (gb < D.heap.size) := by rw [hD]; exact HR.out.lt
      replace HT := hid HTD
      replace hfs := hid hfs
      replace hbl := hid hbl
      generalize hEE : adE (fil more (xs.take n)).1 xsq xc xk xv (1 + hr) = EE at *
      replace htl := hid htl
      replace hD := hid hD
      clear hgtE cd HR HB c0 c1 c2 c3 c4' c5 HAT0 HTD hEE hxx
      go_wp2_with fail
      refine wp_region_held_drew (S := fun W => At6 W pb (po + n * 6) ⟨xkd, xht, xsq, xc, xk, xv⟩) (by kernel_rfl) (by rw [← hD.out]; exact HAT.out) (fun hS => ?_)
      rw [← hD.out] at hS ⊢
      refine wpAnyH_take (i := 0) (v := ?v1) rfl (by kernel_rfl) (by kernel_rfl) (by kernel_rfl) (fun _ _ _ h => h) (Or.inl ⟨by rfl, ?h1⟩) hS ?_
      case h1 => (intro W hW; go_simp; try (with_reducible rfl))
      go_simp
      refine wpAnyH_take (i := 1) (v := ?v2) rfl (by kernel_rfl) (by kernel_rfl) (by kernel_rfl) (fun _ _ _ h => h) (Or.inl ⟨by rfl, ?h2⟩) hS ?_
      case h2 => (intro W hW; go_simp; try (with_reducible rfl))
      go_simp
      refine wpAnyH_take (i := 2) (v := ?v3) rfl (by kernel_rfl) (by kernel_rfl) (by kernel_rfl) (fun _ _ _ h => h) (Or.inl ⟨by rfl, ?h3⟩) hS ?_
      case h3 => (intro W hW; go_simp; try (with_reducible rfl))
      go_simp
      refine wpAnyH_take (i := 3) (v := ?v4) rfl (by kernel_rfl) (by kernel_rfl) (by kernel_rfl) (fun _ _ _ h => h) (Or.inl ⟨by rfl, ?h4⟩) hS ?_
      case h4 => (intro W hW; go_simp; try (with_reducible rfl))
      go_simp
      refine wpAnyH_take (i := 4) (v := ?v5) rfl (by kernel_rfl) (by kernel_rfl) (by kernel_rfl) (fun _ _ _ h => h) (Or.inl ⟨by rfl, ?h5⟩) hS ?_
      case h5 => (intro W hW; go_simp; try (with_reducible rfl))
      go_simp
      refine wpAnyH_take (i := 5) (v := ?v6) rfl (by kernel_rfl) (by kernel_rfl) (by kernel_rfl) (fun _ _ _ h => h) (Or.inl ⟨by rfl, ?h6⟩) hS ?_
      case h6 => (intro W hW; go_simp; try (with_reducible rfl))
      go_simp
      refine wpAnyH_take (i := 6) (v := ?v7) rfl (by kernel_rfl) (by kernel_rfl) (by kernel_rfl) (fun _ _ _ h => h) (Or.inl ⟨by rfl, ?h7⟩) hS ?_
      case h7 => (intro W hW; go_simp; try (with_reducible rfl))
      go_simp
      refine wpAnyH_take (i := 7) (v := ?v8) rfl (by kernel_rfl) (by kernel_rfl) (by kernel_rfl) (fun _ _ _ h => h) (Or.inl ⟨by rfl, ?h8⟩) hS ?_
      case h8 => (intro W hW; obtain ⟨l0, l1, l2, l3, l4, l5⟩ := hW; dsimp only at l0 l1 l2 l3 l4 l5; go_simp; try (with_reducible rfl))
      go_simp
      refine wpAnyH_take (i := 8) (v := ?v9) rfl (by kernel_rfl) (by kernel_rfl) (by kernel_rfl) (fun _ _ _ h => h) (Or.inl ⟨by rfl, ?h9⟩) hS ?_
      case h9 => (intro W hW; go_simp; try (with_reducible rfl))
      go_simp
      refine wpAnyH_take (i := 9) (v := ?v10) rfl (by kernel_rfl) (by kernel_rfl) (by kernel_rfl) (fun _ _ _ h => h) (Or.inl ⟨by rfl, ?h10⟩) hS ?_
      case h10 => (intro W hW; go_simp; try (with_reducible rfl))
      go_simp
      refine wpAnyH_take (i := 10) (v := ?v11) rfl (by kernel_rfl) (by kernel_rfl) (by kernel_rfl) (fun _ _ _ h => h) (Or.inl ⟨by rfl, ?h11⟩) hS ?_
      case h11 => (intro W hW; go_simp; try (with_reducible rfl))
      go_simp
      refine wpAnyH_take (i := 11) (v := ?v12) rfl (by kernel_rfl) (by kernel_rfl) (by kernel_rfl) (fun _ _ _ h => h) (Or.inl ⟨by rfl, ?h12⟩) hS ?_
      case h12 => (intro W hW; go_simp; try (with_reducible rfl))
      go_simp
      refine wpAnyH_take (i := 12) (v := ?v13) rfl (by kernel_rfl) (by kernel_rfl) (by kernel_rfl) (fun _ _ _ h => h) (Or.inl ⟨by rfl, ?h13⟩) hS ?_
      case h13 => (intro W hW; obtain ⟨l0, l1, l2, l3, l4, l5⟩ := hW; dsimp only at l0 l1 l2 l3 l4 l5; go_simp; try (with_reducible rfl))
      go_simp
      refine wpAnyH_take (i := 13) (v := ?v14) rfl (by kernel_rfl) (by kernel_rfl) (by kernel_rfl) (fun _ _ _ h => h) (Or.inl ⟨by rfl, ?h14⟩) hS ?_
      case h14 => (intro W hW; go_simp; try (with_reducible rfl))
      go_simp
      refine wpAnyH_take (i := 14) (v := ?v15) rfl (by kernel_rfl) (by kernel_rfl) (by kernel_rfl) (fun _ _ _ h => h) (Or.inl ⟨by rfl, ?h15⟩) hS ?_
      case h15 => (intro W hW; go_simp; try (with_reducible rfl))
      go_simp
      refine wpAnyH_take (i := 15) (v := ?v16) rfl (by kernel_rfl) (by kernel_rfl) (by kernel_rfl) (fun _ _ _ h => h) (Or.inl ⟨by rfl, ?h16⟩) hS ?_
      case h16 => (intro W hW; go_simp; try (with_reducible rfl))
      go_simp
      refine wpAnyH_take (i := 16) (v := ?v17) rfl (by kernel_rfl) (by kernel_rfl) (by kernel_rfl) (fun _ _ _ h => h) (Or.inl ⟨by rfl, ?h17⟩) hS ?_
      case h17 => (intro W hW; go_simp; try (with_reducible rfl))
      go_simp
      refine wpAnyH_take (i := 17) (v := ?v18) rfl (by kernel_rfl) (by kernel_rfl) (by kernel_rfl) (fun _ _ _ h => h) (Or.inl ⟨by rfl, ?h18⟩) hS ?_
      case h18 => (intro W hW; obtain ⟨l0, l1, l2, l3, l4, l5⟩ := hW; dsimp only at l0 l1 l2 l3 l4 l5; go_simp; try (with_reducible rfl))
      go_simp
      refine wpAnyH_take (i := 18) (v := ?v19) rfl (by kernel_rfl) (by kernel_rfl) (by kernel_rfl) (fun _ _ _ h => h) (Or.inl ⟨by rfl, ?h19⟩) hS ?_
      case h19 => (intro W hW; go_simp; try (with_reducible rfl))
      go_simp
      refine wpAnyH_take (i := 19) (v := ?v20) rfl (by kernel_rfl) (by kernel_rfl) (by kernel_rfl) (fun _ _ _ h => h) (Or.inl ⟨by rfl, ?h20⟩) hS ?_
      case h20 => (intro W hW; go_simp; try (with_reducible rfl))
      go_simp
      refine wpAnyH_ready (rs := [20]) (by kernel_rfl) (by simp) ?_
      refine AllReadyH.cons rfl (fun K hK => ?_) ?_
      · go_simp
        go_wp2_with fail
        refine (HAm.out _).mono ?_
        rintro e w9 ⟨rfl, rfl⟩
        refine hK.out _ _ hS (fun hS => ?_)
        clear hK K
        refine wpAnyH_take (i := 21) (v := ?v21) rfl (by kernel_rfl) (by kernel_rfl) (by kernel_rfl) (fun _ _ _ h => h) (Or.inl ⟨by rfl, ?h21⟩) hS ?_
        case h21 => (intro W hW; go_simp; try (with_reducible rfl))
        go_simp
        refine wpAnyH_ready (rs := [22]) (by kernel_rfl) (by simp) ?_
        refine AllReadyH.cons rfl (fun K hK => ?_) ?_
        · go_simp
          go_wp2_with fail
          rw [hw1.out]
          refine HAd.out.mono ?_
          rintro e w2 ⟨rfl, T3, F3⟩
          have B30 : Below w.heap.size w9 w2 := F3.base HBD.out.size (fun j hj => (HT.out.low j hj).1)
          have B3 : Below w.heap.size w w2 := HBD.out.trans B30
          have nP3 : ¬ gw P w9 w2 gb := by
            rintro (h | h)
            · exact HP.out h
            · have := h.1; have := hgl.out; omega
          have R3 : Br w2 gb ((fil more (xs.take n)).2 ++ List.replicate (len - n) false) := (F3.block gb hgl.out HP.out).trans HRD.out
          rw [show len - n = (len - (n + 1)) + 1 by omega] at R3
          have R4 := R3.set (EE == 0)
          rw [hbl.out] at R4
          have x0 := R3.cell n (by rw [List.length_append, hbl.out, List.length_replicate]; omega)
          have fx := R3.fz n
          have HSK : Hid (∀ b, At6 (w2.setCell ⟨gb, n, none⟩ (.bool b)) pb (po + n * 6) ⟨xkd, xht, xsq, xc, xk, xv⟩) := fun b => (HAT.out.later hpb.out B30).later hpb.out ((Below.refl _ _).setCell (p := ⟨gb, n, none⟩) hgb0.out _)
          have B4 : Hid (Below w.heap.size w (w2.setCell ⟨gb, n, none⟩ (.bool (EE == 0)))) := B3.setCell (p := ⟨gb, n, none⟩) hgb0.out _
          have T4 : Hid (Tb.Tb (w2.setCell ⟨gb, n, none⟩ (.bool (EE == 0))) w.heap.size g (gw P w9 w2) (fil more (xs.take (n + 1))).1) := by
            rw [show (fil more (xs.take (n + 1))).1 = _ from congrArg Prod.fst hfs.out]
            refine T3.blocks (fun j hj => Below.heap_setCell w2 _ _ j (fun e => ?_)) (by simp)
            have e' : j = gb := e
            rw [e'] at hj
            exact nP3 hj
          have R5 : Hid (Br (w2.setCell ⟨gb, n, none⟩ (.bool (EE == 0))) gb ((fil more (xs.take (n + 1))).2 ++ List.replicate (len - (n + 1)) false)) := by
            rw [show (fil more (xs.take (n + 1))).2 = _ from congrArg Prod.snd hfs.out]
            exact R4
          refine hK.out _ _ (HAT.out.later hpb.out B30) (fun hS => ?_)
          clear hK K T3 F3 R3 R4 B3 B30
          replace nP3 := hid nP3
          generalize ((fil more (xs.take n)).2 ++ List.replicate (len - (n + 1) + 1) false).getD n false = ob at *
          refine wpAnyH_take (i := 23) (v := ?v22) rfl (by kernel_rfl) (by kernel_rfl) (by kernel_rfl) (fun _ _ _ h => h) (Or.inl ⟨by rfl, ?h22⟩) hS ?_
          case h22 => (intro W hW; go_simp; try (with_reducible rfl))
          go_simp
          refine wpAnyH_take (i := 24) (v := ?v23) rfl (by kernel_rfl) (by kernel_rfl) (by kernel_rfl) (fun _ _ _ h => h) (Or.inl ⟨by rfl, ?h23⟩) hS ?_
          case h23 => (intro W hW; go_simp; try (with_reducible rfl))
          go_simp
          refine wpAnyH_ready (rs := [25]) (by kernel_rfl) (by simp) ?_
          refine AllReadyH.cons rfl (fun K hK => ?_) ?_
          · go_simp
            refine hK.out _ _ (HSK.out _) (fun hS => ?_)
            clear hK K
            refine wpAnyH_done (by kernel_rfl) ?_ _
            replace hS := hid hS
            go_wp2_with fail
            refine ⟨⟨n + 1, _, by omega, by first | rfl | go_num, T4, R5, nP3, B4⟩, ?_⟩
            simp only [intOf]; omega
          exact AllReadyH.nil
        exact AllReadyH.nil
      exact AllReadyH.nil
    · have hnl : n = len := by omega
      subst hnl
      have hxt : xs.take n = xs := by rw [← hxl]; exact List.take_length
      rw [hxt, Nat.sub_self, List.replicate_zero, List.append_nil] at HR
      rw [hxt] at HT
      go_wp2_with fail
      go_ret2
      exact ⟨g, gb, P, rfl, HT.out, HR.out, HP.out, hgb0.out, HB.out⟩
end Go.Proofs.Ytefihoohdaegeaa.Fl
