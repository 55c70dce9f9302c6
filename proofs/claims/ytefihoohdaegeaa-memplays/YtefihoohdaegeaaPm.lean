/- Plain: the operations that were taken are taken again in any order, with any heights: the same entries, tombs, sizes, numbers, answers. -/
import Derived.Test.YtefihoohdaegeaaBs
import Derived.Test.YtefihoohdaegeaaEt
namespace Go.Proofs.Ytefihoohdaegeaa.Pm
open Go.Proofs.Ytefihoohdaegeaa.Ik
open Go.Proofs.Ytefihoohdaegeaa.Ee (E ze)
open Go.Proofs.Ytefihoohdaegeaa.Tm (T vd zt)
open Go.Proofs.Ytefihoohdaegeaa.Sg
open Go.Proofs.Ytefihoohdaegeaa.In
open Go.Proofs.Ytefihoohdaegeaa.Fm (has)
open Go.Proofs.Ytefihoohdaegeaa.Tb
open Go.Proofs.Ytefihoohdaegeaa.Eo
open Go.Proofs.Ytefihoohdaegeaa.Et (ents)
open Go.Proofs.Ytefihoohdaegeaa.Ad
open Go.Proofs.Ytefihoohdaegeaa.Ck
open Go.Proofs.Ytefihoohdaegeaa.Pt (St.count)
open Go.Proofs.Ytefihoohdaegeaa.Fl
open Go.Proofs.Ytefihoohdaegeaa.An
open Go.Proofs.Ytefihoohdaegeaa.Bs (adS_wf fil_wf fil_take)
open Go.Proofs.Ytefihoohdaegeaa.Gt (fnd nd_mem)
open Go.Proofs.Ytefihoohdaegeaa.Gs (insE_zero)
open Go.Proofs.Ytefihoohdaegeaa.Vl (vld)
open Go.Proofs.Ytefihoohdaegeaa.Cm (ik)
set_option linter.unusedVariables false
set_option linter.unusedSimpArgs false

def aE (x : A6) : E := ⟨x.k, x.sq, x.c, x.v⟩
def aT (x : A6) : T := ⟨x.k, x.v, x.sq⟩
def isT (x : A6) : Bool := decide (x.c = 2)
def eL (L : List A6) : List E := (L.filter fun x => !isT x).map aE
def tL (L : List A6) : List T := (L.filter isT).map aT
def sL : List A6 → Int
  | [] => 0
  | x :: l => (16 + (x.k.size : Int) + x.v.size) + sL l
def unl (x y : A6) : Prop := ¬ (x.k.data.toList = y.k.data.toList ∧ x.sq = y.sq ∧ x.c = y.c)
theorem unl_symm {x y : A6} (h : unl x y) : unl y x := fun ⟨a, b, c⟩ => h ⟨a.symm, b.symm, c.symm⟩
theorem sL_snoc : ∀ (L : List A6) (x : A6), sL (L ++ [x]) = sL L + (16 + (x.k.size : Int) + x.v.size)
  | [], x => by simp [sL]
  | y :: l, x => by
    show _ + sL (l ++ [x]) = _ + sL l + _
    rw [sL_snoc l x]; omega
theorem sL_perm {L L' : List A6} (h : L.Perm L') : sL L = sL L' := by
  induction h with
  | nil => rfl
  | cons x _ ih => show _ + _ = _ + _; rw [ih]
  | swap x y l => show _ + (_ + _) = _ + (_ + _); omega
  | trans _ _ a b => exact a.trans b
theorem eL_snoc_e {L : List A6} {x : A6} (h : x.c ≠ 2) : eL (L ++ [x]) = eL L ++ [aE x] := by
  simp [eL, List.filter_append, isT, h]
theorem eL_snoc_t {L : List A6} {x : A6} (h : x.c = 2) : eL (L ++ [x]) = eL L := by
  simp [eL, List.filter_append, isT, h]
theorem tL_snoc_t {L : List A6} {x : A6} (h : x.c = 2) : tL (L ++ [x]) = tL L ++ [aT x] := by
  simp [tL, List.filter_append, isT, h]
theorem tL_snoc_e {L : List A6} {x : A6} (h : x.c ≠ 2) : tL (L ++ [x]) = tL L := by
  simp [tL, List.filter_append, isT, h]
theorem eL_perm {L L' : List A6} (h : L.Perm L') : (eL L).Perm (eL L') := (h.filter _).map _
theorem tL_perm {L L' : List A6} (h : L.Perm L') : (tL L).Perm (tL L') := (h.filter _).map _
theorem len_parts : ∀ L : List A6, (eL L).length + (tL L).length = L.length
  | [] => rfl
  | x :: l => by
    have ih := len_parts l
    by_cases h : x.c = 2
    · have e1 : eL (x :: l) = eL l := by simp [eL, isT, h]
      have e2 : tL (x :: l) = aT x :: tL l := by simp [tL, isT, h]
      rw [e1, e2]; simp; omega
    · have e1 : eL (x :: l) = aE x :: eL l := by simp [eL, isT, h]
      have e2 : tL (x :: l) = tL l := by simp [tL, isT, h]
      rw [e1, e2]; simp; omega
/-- A memtable that holds just these operations. -/
structure Rep (S : St) (L : List A6) : Prop where
  ns : S.ns.map nent = eL L
  ts : S.ts = tL L
  sz : S.sz = sL L
  lo : (L = [] ∧ S.lo = 0) ∨ ((∃ x ∈ L, S.lo = x.sq) ∧ ∀ y ∈ L, S.lo ≤ y.sq)
  hi : (L = [] ∧ S.hi = 0) ∨ ((∃ x ∈ L, S.hi = x.sq) ∧ ∀ y ∈ L, y.sq ≤ S.hi)
  dn : S.dn = false
  ok : ∀ x ∈ L, (1 ≤ x.sq ∧ x.sq ≤ 72057594037927935) ∧ may x.c x.k x.v = true ∧ (x.c ≠ 2 → vld x.k x.sq x.c = true)
  un : L.Pairwise unl
  wf : Wf S
theorem Rep.new : Rep (St.new 1) [] := ⟨rfl, rfl, rfl, .inl ⟨rfl, rfl⟩, .inl ⟨rfl, rfl⟩, rfl, fun _ h => by simp at h, List.Pairwise.nil, Wf.new 1⟩
theorem count_lo {S : St} {L : List A6} (R : Rep S L) (x : A6) (hx : 1 ≤ x.sq) : ((∃ y ∈ L ++ [x], (if S.lo = 0 ∨ x.sq < S.lo then x.sq else S.lo) = y.sq) ∧ ∀ y ∈ L ++ [x], (if S.lo = 0 ∨ x.sq < S.lo then x.sq else S.lo) ≤ y.sq) := by
  rcases R.lo with ⟨h1, h2⟩ | ⟨⟨z, hz, h1⟩, h2⟩
  · rw [if_pos (.inl h2), h1]
    exact ⟨⟨x, by simp, rfl⟩, fun y hy => by simp at hy; rw [hy]; exact Int.le_refl _⟩
  · have hz1 := (R.ok z hz).1.1
    by_cases hc : x.sq < S.lo
    · rw [if_pos (.inr hc)]
      refine ⟨⟨x, by simp, rfl⟩, fun y hy => ?_⟩
      rcases List.mem_append.1 hy with h | h
      · have := h2 y h; omega
      · rw [List.mem_singleton.1 h]; exact Int.le_refl _
    · rw [if_neg (by omega)]
      refine ⟨⟨z, List.mem_append_left _ hz, h1⟩, fun y hy => ?_⟩
      rcases List.mem_append.1 hy with h | h
      · exact h2 y h
      · rw [List.mem_singleton.1 h]; omega
theorem count_hi {S : St} {L : List A6} (R : Rep S L) (x : A6) (hx : 1 ≤ x.sq) : ((∃ y ∈ L ++ [x], max S.hi x.sq = y.sq) ∧ ∀ y ∈ L ++ [x], y.sq ≤ max S.hi x.sq) := by
  rcases R.hi with ⟨h1, h2⟩ | ⟨⟨z, hz, h1⟩, h2⟩
  · rw [h2, h1]
    exact ⟨⟨x, by simp, by omega⟩, fun y hy => by simp at hy; rw [hy]; omega⟩
  · refine ⟨?_, fun y hy => ?_⟩
    · by_cases hc : S.hi ≤ x.sq
      · exact ⟨x, by simp, by omega⟩
      · exact ⟨z, List.mem_append_left _ hz, by omega⟩
    · rcases List.mem_append.1 hy with h | h
      · have := h2 y h; omega
      · rw [List.mem_singleton.1 h]; omega
theorem has_tL (L : List A6) (k : ByteArray) (s : Int) : has (tL L) k s = true ↔ ∃ y ∈ L, y.c = 2 ∧ y.k.data.toList = k.data.toList ∧ y.sq = s := by
  unfold has tL
  rw [List.any_eq_true]
  constructor
  · rintro ⟨t, ht, h⟩
    obtain ⟨y, hy, rfl⟩ := List.mem_map.1 ht
    obtain ⟨hy1, hy2⟩ := List.mem_filter.1 hy
    exact ⟨y, hy1, by simpa [isT] using hy2, by simpa [aT] using h⟩
  · rintro ⟨y, hy, h1, h2⟩
    exact ⟨aT y, List.mem_map.2 ⟨y, List.mem_filter.2 ⟨hy, by simp [isT, h1]⟩, rfl⟩, by simpa [aT] using h2⟩
theorem thr_iff {S : St} {L : List A6} (R : Rep S L) (k : ByteArray) (s c : Int) (hc : c ≠ 2) : thr S.ns S.ord (ik k s c) = true ↔ ∃ y ∈ L, y.k.data.toList = k.data.toList ∧ y.sq = s ∧ y.c = c := by
  have G := R.wf.gd
  constructor
  · intro h
    apply Classical.byContradiction
    intro hn
    unfold thr at h
    simp only [decide_eq_true_eq] at h
    obtain ⟨h0, h1⟩ := h
    obtain ⟨fm, _⟩ := first_mem G (ik k s c) h0
    have fl := (G.mem _).1 fm
    have e := (cmp_zero _ _).1 h1
    have hm : nent (nd S.ns (firstN S.ns S.ord (ik k s c))) ∈ eL L := by rw [← R.ns]; exact List.mem_map.2 ⟨_, nd_mem fl.1 fl.2, rfl⟩
    obtain ⟨y, hy, ey⟩ := List.mem_map.1 hm
    have hyL := (List.mem_filter.1 hy).1
    have e1 : (key S.ns (firstN S.ns S.ord (ik k s c))) = (y.k.data.toList, y.sq, y.c) := by
      show (nent (nd S.ns _)).ik = _
      rw [← ey]; rfl
    rw [e1] at e
    exact hn ⟨y, hyL, congrArg (·.1) e, congrArg (·.2.1) e, congrArg (·.2.2) e⟩
  · rintro ⟨y, hy, h1, h2, h3⟩
    have hm : aE y ∈ S.ns.map nent := by
      rw [R.ns]
      exact List.mem_map.2 ⟨y, List.mem_filter.2 ⟨hy, by simp [isT]; omega⟩, rfl⟩
    obtain ⟨n, hn, en⟩ := List.mem_map.1 hm
    obtain ⟨i, i1, i2, rfl⟩ := mem_num hn
    refine (Fi.first_eq G (ik k s c) i ((G.mem i).2 ⟨i1, i2⟩) ?_).2
    rw [cmp_zero]
    show (nent (nd S.ns i)).ik = _
    rw [en]
    show (y.k.data.toList, y.sq, y.c) = (k.data.toList, s, c)
    rw [h1, h2, h3]
/-- What is taken stands behind the others. -/
theorem Rep.take {S : St} {L : List A6} (R : Rep S L) (x : A6) (h : Int) (hE : adE S x.sq x.c x.k x.v h = 0) : Rep (adS S x.sq x.c x.k x.v h) (L ++ [x]) := by
  have hW := adS_wf R.wf x.sq x.c x.k x.v h
  have hE' := hE
  unfold adE at hE'
  have hch : chk S x.sq x.c x.k x.v h = 0 := by
    by_cases hc : chk S x.sq x.c x.k x.v h = 0
    · exact hc
    · rw [if_pos hc] at hE'; exact absurd hE' hc
  obtain ⟨z1, z2, z3, z4⟩ := chk_zero hch
  rw [if_neg (by rw [hch]; simp)] at hE'
  have lo := count_lo R x z2.1
  have hi := count_hi R x z2.1
  by_cases hc : x.c = 2
  · rw [if_pos hc] at hE'
    have hno : has S.ts x.k x.sq = false := by
      cases hh : has S.ts x.k x.sq with
      | false => rfl
      | true => rw [hh, if_pos rfl] at hE'; cases hE'
    have eS : adS S x.sq x.c x.k x.v h = St.count { S with ts := S.ts ++ [aT x] } x.sq x.k x.v := by
      unfold adS; rw [if_neg (by rw [hE]; simp), if_pos hc]; rfl
    rw [eS] at hW ⊢
    refine ⟨?_, ?_, ?_, .inr lo, .inr hi, R.dn, ?_, ?_, hW⟩
    · rw [eL_snoc_t hc]; exact R.ns
    · rw [tL_snoc_t hc, ← R.ts]; rfl
    · rw [sL_snoc, ← R.sz]; rfl
    · intro y hy
      rcases List.mem_append.1 hy with h | h
      · exact R.ok y h
      · rw [List.mem_singleton.1 h]; exact ⟨z2, z3, fun hn => absurd hc hn⟩
    · rw [List.pairwise_append]
      refine ⟨R.un, by simp, fun y hy z hz => ?_⟩
      rw [List.mem_singleton.1 hz]
      rintro ⟨a, b, c⟩
      have := (has_tL L x.k x.sq).2 ⟨y, hy, c.trans hc, a, b⟩
      rw [← R.ts, hno] at this
      cases this
  · rw [if_neg hc] at hE'
    obtain ⟨q1, q2, q3, q4⟩ := insE_zero hE'
    have eS : adS S x.sq x.c x.k x.v h = St.count { S with ns := S.ns ++ [⟨x.k, x.sq, x.c, .string x.v, h.toNat⟩], ord := ordI S.ns S.ord (ik x.k x.sq x.c) (S.ns.length + 1) } x.sq x.k x.v := by
      unfold adS; rw [if_neg (by rw [hE]; simp), if_neg hc]
    rw [eS] at hW ⊢
    refine ⟨?_, ?_, ?_, .inr lo, .inr hi, R.dn, ?_, ?_, hW⟩
    · rw [eL_snoc_e hc, ← R.ns]
      show (S.ns ++ [_]).map nent = _
      rw [List.map_append]; rfl
    · rw [tL_snoc_e hc]; exact R.ts
    · rw [sL_snoc, ← R.sz]; rfl
    · intro y hy
      rcases List.mem_append.1 hy with h | h
      · exact R.ok y h
      · rw [List.mem_singleton.1 h]; exact ⟨z2, z3, fun _ => q1⟩
    · rw [List.pairwise_append]
      refine ⟨R.un, by simp, fun y hy z hz => ?_⟩
      rw [List.mem_singleton.1 hz]
      rintro ⟨a, b, c⟩
      have := (thr_iff R x.k x.sq x.c hc).2 ⟨y, hy, a, b, c⟩
      rw [q3] at this
      cases this
/-- What is unlike all others is taken. -/
theorem Rep.takes {S : St} {L : List A6} (R : Rep S L) (x : A6) (h : Int) (hh : 1 ≤ h ∧ h ≤ 12) (hok : (1 ≤ x.sq ∧ x.sq ≤ 72057594037927935) ∧ may x.c x.k x.v = true ∧ (x.c ≠ 2 → vld x.k x.sq x.c = true)) (hu : ∀ y ∈ L, unl y x) (hl : x.c ≠ 2 → S.ns.length < 1048576) : adE S x.sq x.c x.k x.v h = 0 := by
  have hch : chk S x.sq x.c x.k x.v h = 0 := by
    unfold chk
    rw [if_neg (by rw [R.dn]; simp), if_neg (by omega), if_neg (by rw [hok.2.1]; simp), if_neg (by omega)]
  unfold adE
  rw [if_neg (by rw [hch]; simp)]
  by_cases hc : x.c = 2
  · rw [if_pos hc, if_neg]
    intro hh'
    rw [R.ts] at hh'
    obtain ⟨y, hy, h1, h2, h3⟩ := (has_tL L x.k x.sq).1 hh'
    exact hu y hy ⟨h2, h3, h1.trans hc.symm⟩
  · rw [if_neg hc]
    unfold insE
    rw [if_neg (by rw [hok.2.2 hc]; simp), if_neg (by omega), if_neg, if_neg (by have := hl hc; omega)]
    intro ht
    obtain ⟨y, hy, h1⟩ := (thr_iff R x.k x.sq x.c hc).1 ht
    exact hu y hy h1
theorem Rep.skip {S : St} {L : List A6} (R : Rep S L) (x : A6) (h : Int) (hE : adE S x.sq x.c x.k x.v h ≠ 0) : Rep (adS S x.sq x.c x.k x.v h) L := by
  unfold adS; rw [if_pos hE]; exact R
theorem hgt_bd (more ht : Int) : 1 ≤ hgt more ht ∧ hgt more ht ≤ 12 := by
  unfold hgt
  have h1 := Int.emod_nonneg (IntKind.i64.wrap (ht + more)) (show (12 : Int) ≠ 0 by decide)
  have h2 := Int.emod_lt_of_pos (IntKind.i64.wrap (ht + more)) (show (0 : Int) < 12 by decide)
  omega
/-- Those of a beginning that were taken. -/
def tk (xs : List A6) (bs : List Bool) : Nat → List A6
  | 0 => []
  | n + 1 => if bs.getD n false = true then tk xs bs n ++ [xs.getD n za] else tk xs bs n
theorem tk_len (xs : List A6) (bs : List Bool) : ∀ n, (tk xs bs n).length ≤ n
  | 0 => Nat.le_refl _
  | n + 1 => by
    have := tk_len xs bs n
    unfold tk
    split
    · simp; omega
    · omega
theorem tk_rep (xs : List A6) : ∀ n, n ≤ xs.length → Rep (fil 0 (xs.take n)).1 (tk xs (fil 0 xs).2 n)
  | 0, _ => Rep.new
  | n + 1, h => by
    have ih := tk_rep xs n (by omega)
    have hft := fil_take xs n (by omega)
    have hsn := fil_snoc 0 (xs.take n) (xs.getD n za)
    rw [← take_snoc (by omega)] at hsn
    have hs1 : (fil 0 (xs.take (n + 1))).1 = adS (fil 0 (xs.take n)).1 (xs.getD n za).sq (xs.getD n za).c (xs.getD n za).k (xs.getD n za).v (hgt 0 (xs.getD n za).ht) := by rw [hsn]; rfl
    rw [hs1]
    unfold tk
    rw [hft]
    by_cases hE : adE (fil 0 (xs.take n)).1 (xs.getD n za).sq (xs.getD n za).c (xs.getD n za).k (xs.getD n za).v (hgt 0 (xs.getD n za).ht) = 0
    · rw [if_pos (by simpa using hE)]; exact ih.take _ _ hE
    · rw [if_neg (by simpa using hE)]; exact ih.skip _ _ hE
/-- All of a list whose operations are unlike are taken. -/
theorem all_taken (more : Int) (L : List A6) (hok : ∀ x ∈ L, (1 ≤ x.sq ∧ x.sq ≤ 72057594037927935) ∧ may x.c x.k x.v = true ∧ (x.c ≠ 2 → vld x.k x.sq x.c = true)) (hu : L.Pairwise unl) (hl : (eL L).length ≤ 1048576) : ∀ n, n ≤ L.length → Rep (fil more (L.take n)).1 (L.take n) ∧ (fil more (L.take n)).2 = List.replicate n true
  | 0, _ => ⟨Rep.new, rfl⟩
  | n + 1, h => by
    obtain ⟨R, ih⟩ := all_taken more L hok hu hl n (by omega)
    have hsn := fil_snoc more (L.take n) (L.getD n za)
    have htk : L.take (n + 1) = L.take n ++ [L.getD n za] := take_snoc (by omega)
    have hu' : (L.take (n + 1)).Pairwise unl := hu.sublist (List.take_sublist _ _)
    rw [htk, List.pairwise_append] at hu'
    have hE : adE (fil more (L.take n)).1 (L.getD n za).sq (L.getD n za).c (L.getD n za).k (L.getD n za).v (hgt more (L.getD n za).ht) = 0 := by
      refine R.takes _ _ (hgt_bd _ _) (hok _ (get_mem (by omega))) (fun y hy => hu'.2.2 y hy _ (by simp)) (fun hc => ?_)
      have h1 : (eL (L.take (n + 1))).length ≤ (eL L).length := by
        unfold eL; rw [List.length_map, List.length_map]
        exact ((List.take_sublist (n + 1) L).filter _).length_le
      rw [htk, eL_snoc_e hc] at h1
      have h2 := congrArg List.length R.ns
      simp at h1 h2
      omega
    rw [← htk] at hsn
    refine ⟨?_, ?_⟩
    · rw [hsn, htk]; exact R.take _ _ hE
    · rw [hsn]
      show (fil more (L.take n)).2 ++ [_ == (0 : Int)] = _
      rw [ih, hE, List.replicate_succ']; rfl
/-! ### The same in another order -/
theorem srt_ext : ∀ (l l' : List E), l.Pairwise (fun a b => cmp a.ik b.ik < 0) → l'.Pairwise (fun a b => cmp a.ik b.ik < 0) → (∀ x, x ∈ l ↔ x ∈ l') → l = l'
  | [], l', _, _, h => by
    cases l' with
    | nil => rfl
    | cons y l' => exact absurd ((h y).2 (by simp)) (by simp)
  | x :: l, [], _, _, h => absurd ((h x).1 (by simp)) (by simp)
  | x :: l, y :: l', p, p', h => by
    obtain ⟨p1, p2⟩ := List.pairwise_cons.1 p
    obtain ⟨q1, q2⟩ := List.pairwise_cons.1 p'
    have hxy : x = y := by
      rcases List.mem_cons.1 ((h x).1 (by simp)) with e | e
      · exact e
      · rcases List.mem_cons.1 ((h y).2 (by simp)) with e' | e'
        · exact e'.symm
        · have a := q1 x e
          have b := p1 y e'
          have := cmp_anti x.ik y.ik
          omega
    subst hxy
    rw [srt_ext l l' p2 q2 (fun z => ⟨fun hz => ?_, fun hz => ?_⟩)]
    · rcases List.mem_cons.1 ((h z).1 (List.mem_cons_of_mem _ hz)) with e | e
      · have := p1 z hz; rw [e] at this; exact absurd this (cmp_lt_irrefl _)
      · exact e
    · rcases List.mem_cons.1 ((h z).2 (List.mem_cons_of_mem _ hz)) with e | e
      · have := q1 z hz; rw [e] at this; exact absurd this (cmp_lt_irrefl _)
      · exact e
theorem ents_rise {S : St} (W : Wf S) : (ents S S.ord).Pairwise (fun a b => cmp a.ik b.ik < 0) := by
  unfold ents
  rw [List.pairwise_map]
  have G := W.gd
  refine List.Pairwise.imp_of_mem ?_ G.rise
  intro a b ha hb h
  have ha0 := G.ne0 ha
  have hb0 := G.ne0 hb
  unfold entN
  rw [if_neg ha0, if_neg hb0]
  exact h
theorem ents_mem {S : St} (W : Wf S) (x : E) : x ∈ ents S S.ord ↔ x ∈ S.ns.map nent := by
  have G := W.gd
  unfold ents
  constructor
  · intro h
    obtain ⟨n, hn, rfl⟩ := List.mem_map.1 h
    have hm := (G.mem n).1 hn
    unfold entN
    rw [if_neg (G.ne0 hn)]
    exact List.mem_map.2 ⟨_, nd_mem hm.1 hm.2, rfl⟩
  · intro h
    obtain ⟨n, hn, rfl⟩ := List.mem_map.1 h
    obtain ⟨i, i1, i2, rfl⟩ := mem_num hn
    refine List.mem_map.2 ⟨i, (G.mem i).2 ⟨i1, i2⟩, ?_⟩
    unfold entN
    rw [if_neg (by omega)]
theorem Rep.same {S S' : St} {L L' : List A6} (R : Rep S L) (R' : Rep S' L') (p : L.Perm L') : ents S S.ord = ents S' S'.ord ∧ S.ts.length = S'.ts.length ∧ S.ns.length + S.ts.length = L.length ∧ S'.ns.length + S'.ts.length = L.length ∧ S.sz = S'.sz ∧ S.lo = S'.lo ∧ S.hi = S'.hi ∧ ∀ g g' k q, fnd [(g, S)] k q = fnd [(g', S')] k q := by
  have hne : ∀ x, x ∈ S.ns.map nent ↔ x ∈ S'.ns.map nent := fun x => by rw [R.ns, R'.ns]; exact (eL_perm p).mem_iff
  have hnt : ∀ x, x ∈ S.ts ↔ x ∈ S'.ts := fun x => by rw [R.ts, R'.ts]; exact (tL_perm p).mem_iff
  have hl := len_parts L
  have hl' := len_parts L'
  have h1 := congrArg List.length R.ns
  have h2 := congrArg List.length R'.ns
  have h3 := congrArg List.length R.ts
  have h4 := congrArg List.length R'.ts
  have h5 := (tL_perm p).length_eq
  have h6 := p.length_eq
  rw [List.length_map] at h1 h2
  refine ⟨srt_ext _ _ (ents_rise R.wf) (ents_rise R'.wf) (fun x => by rw [ents_mem R.wf, ents_mem R'.wf]; exact hne x), by omega, by omega, by omega, by rw [R.sz, R'.sz]; exact sL_perm p, ?_, ?_, fun g g' k q => ?_⟩
  · rcases R.lo with ⟨a, b⟩ | ⟨⟨x, hx, a⟩, b⟩ <;> rcases R'.lo with ⟨a', b'⟩ | ⟨⟨x', hx', a'⟩, b'⟩
    · omega
    · rw [a] at h6; rw [List.eq_nil_of_length_eq_zero h6.symm] at hx'; simp at hx'
    · rw [a'] at h6; rw [List.eq_nil_of_length_eq_zero h6] at hx; simp at hx
    · have c1 := b x' (p.mem_iff.2 hx')
      have c2 := b' x (p.mem_iff.1 hx)
      omega
  · rcases R.hi with ⟨a, b⟩ | ⟨⟨x, hx, a⟩, b⟩ <;> rcases R'.hi with ⟨a', b'⟩ | ⟨⟨x', hx', a'⟩, b'⟩
    · omega
    · rw [a] at h6; rw [List.eq_nil_of_length_eq_zero h6.symm] at hx'; simp at hx'
    · rw [a'] at h6; rw [List.eq_nil_of_length_eq_zero h6] at hx; simp at hx
    · have c1 := b x' (p.mem_iff.2 hx')
      have c2 := b' x (p.mem_iff.1 hx)
      omega
  · have A := (ans_get R.wf g k q).same hne hnt
    exact A.uniq (ans_get R'.wf g' k q) (uniq_of R'.wf)
/-- The other order: from behind, turned on by r. -/
def oth (L : List A6) (r : Nat) : List A6 := L.reverse.drop r ++ L.reverse.take r
theorem oth_perm (L : List A6) (r : Nat) : L.Perm (oth L r) := by
  unfold oth
  refine (List.reverse_perm L).symm.trans ?_
  have h : (L.reverse.take r ++ L.reverse.drop r).Perm (L.reverse.drop r ++ L.reverse.take r) := List.perm_append_comm
  rwa [List.take_append_drop] at h
theorem oth_len (L : List A6) (r : Nat) : (oth L r).length = L.length := (oth_perm L r).length_eq.symm
theorem rev_getD (L : List A6) (j : Nat) (h : j < L.length) : L.reverse[j]? = some (L.getD (L.length - 1 - j) za) := by
  rw [List.getElem?_reverse h, List.getD_eq_getElem?_getD, List.getElem?_eq_getElem (by omega)]
  rfl
theorem oth_at (L : List A6) (r m : Nat) (hr : r < L.length) (hm : m < L.length) : (oth L r).getD m za = L.getD (L.length - 1 - (m + r) % L.length) za := by
  unfold oth
  rw [List.getD_eq_getElem?_getD]
  by_cases h : m + r < L.length
  · rw [List.getElem?_append_left (by simp; omega), List.getElem?_drop, Nat.mod_eq_of_lt h, show r + m = m + r by omega, rev_getD L (m + r) h]
    rfl
  · have e : (m + r) % L.length = m + r - L.length := by
      rw [Nat.mod_eq_sub_mod (by omega), Nat.mod_eq_of_lt (by omega)]
    rw [List.getElem?_append_right (by simp; omega), List.getElem?_take, e]
    simp only [List.length_drop, List.length_reverse]
    rw [if_pos (by omega), show m - (L.length - r) = m + r - L.length by omega, rev_getD L _ (by omega)]
    rfl
end Go.Proofs.Ytefihoohdaegeaa.Pm
