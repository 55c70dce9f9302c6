/- The document's disk in plain words, on: names, sums, a crash, two disks; its calls' answers. -/
import Derived.Test.YtgffojafdjcdoaaPd
namespace Go.Proofs.Ytgffojafdjcdoaa.Pd
open Go.Sort
open Go.Proofs.Ytgffojafdjcdoaa.Mp
open Go.Proofs.Ytgffojafdjcdoaa.Dk
open Go.Proofs.Ytgffojafdjcdoaa.Df
open Go.Proofs.Ytgffojafdjcdoaa.Dg
open Go.Proofs.Ytgffojafdjcdoaa.Dh
open Go.Proofs.Ytgffojafdjcdoaa.Di
open Go.Proofs.Ytgffojafdjcdoaa.Us
open Go.Proofs.Ytgffojafdjcdoaa.Lt
open Go.Proofs.Ytgffojafdjcdoaa.Ap
open Go.Proofs.Ytgffojafdjcdoaa.Cr
open Go.Proofs.Ytgffojafdjcdoaa.Cs
open Go.Proofs.Ytgffojafdjcdoaa.Pw
open Go.Proofs.Ytgffojafdjcdoaa.Lx (lt)
set_option linter.unusedVariables false
set_option linter.unusedSimpArgs false

theorem bl_lt : ∀ s t : List UInt8, Op.bytesLess s t = true ↔ s < t
  | _, [] => by rw [Lx.bl_nil]; simp
  | [], y :: t => by constructor <;> intro _ <;> first | rfl | exact List.nil_lt_cons _ _
  | x :: s, y :: t => by
    rw [Lx.bl_cons, List.cons_lt_cons_iff, bl_lt s t, ← Lx.u8_lt]
theorem toL (a : ByteArray) : a.toList = a.data.toList := by
  have h1 := Lx.toList_inj (a := a) (b := a) rfl
  rw [ByteArray.toList_eq]
theorem lt_data {a b : ByteArray} : lt a b = true ↔ a.data.toList < b.data.toList := by
  show Op.bytesLess a.toList b.toList = true ↔ _
  rw [bl_lt, toL, toL]
theorem Cor.nd {rs : List RF} (h : Srt rs) : (rs.map (·.n.data.toList)).Nodup := by
  have : (rs.map (·.n.data.toList)).Pairwise (· < ·) := by
    unfold Srt at h
    rw [List.pairwise_map] at h ⊢
    exact h.imp fun h => lt_data.1 h
  exact this.imp fun h e => by rw [e] at h; exact absurd h (List.lt_irrefl _)
theorem Cor.lst {fs : Fs} {rs : List RF} (h : Cor fs rs) (hn : (names fs).Nodup) : lst fs = rs.map (·.n.data.toList) := by
  unfold Lt.lst
  rw [mergeSort_of_perm (perm_of_mem hn (Cor.nd h.srt) h.mem)]
  refine List.mergeSort_of_pairwise ?_
  have := h.srt
  unfold Srt at this
  rw [List.pairwise_map] at this ⊢
  refine this.imp fun h => ?_
  simp only [leB, decide_eq_true_eq]
  exact List.le_of_lt (lt_data.1 h)
theorem Cor.len {fs : Fs} {rs : List RF} (h : Cor fs rs) (hn : (names fs).Nodup) : fs.length = rs.length := by
  rw [← lst_len, h.lst hn, List.length_map]
theorem Cor.flen {fs : Fs} {rs : List RF} (h : Cor fs rs) {r : RF} (hr : r ∈ rs) : Us.flen fs r.n.data.toList = r.b.size := by
  obtain ⟨f, hf, hc⟩ := h.some (look_of_mem h.srt hr)
  unfold Us.flen
  rw [hf]
  show f.zs.length = _
  have := congrArg Prod.fst hc
  simp only [cf, cr] at this
  rw [this, bs_len]
def tot (rs : List RF) : Nat := (rs.map (·.b.size)).sum
theorem Cor.used {fs : Fs} {rs : List RF} (h : Cor fs rs) (hn : (names fs).Nodup) : Mp.used fs = tot rs := by
  rw [← sum_names hn, ← sum_perm (List.mergeSort_perm _ leB)]
  show sumOf fs (Lt.lst fs) = _
  rw [h.lst hn]
  unfold sumOf tot
  rw [List.map_map]
  congr 1
  exact List.map_congr_left fun r hr => h.flen hr
/-- What a crash leaves of a file. -/
def cutr (r : RF) (x : Int) : RF := ⟨r.n, r.b.extract 0 (sty r.b.size r.k x), sty r.b.size r.k x⟩
def crR (rs : List RF) (ks : List Int) : List RF := rs.mapIdx fun i r => cutr r (kpt ks i)
theorem crR_names (rs : List RF) (ks : List Int) : (crR rs ks).map (·.n) = rs.map (·.n) := by
  unfold crR
  refine List.ext_getElem (by simp) fun i h1 h2 => ?_
  simp [cutr]
theorem look_crR {rs : List RF} {ks : List Int} (s : ByteArray) (h : lkp rs s = none) : lkp (crR rs ks) s = none := by
  refine none_of fun r hr e => ?_
  have : r.n ∈ (crR rs ks).map (·.n) := List.mem_map.2 ⟨r, hr, rfl⟩
  rw [crR_names] at this
  obtain ⟨y, hy, e2⟩ := List.mem_map.1 this
  exact look_none h y hy (e2.trans e)
theorem bs_extract (b : ByteArray) (m : Nat) : bs (b.extract 0 m) = (bs b).take m := by
  unfold bs
  rw [← List.map_take]
  congr 1
  simp [ByteArray.data_extract]
theorem cut_same {f : Fl} {r : RF} (h : cf f = cr r) (x : Int) : cf (cutF f x) = cr (cutr r x) := by
  have h1 := congrArg Prod.fst h
  have h2 := congrArg Prod.snd h
  simp only [cf, cr] at h1 h2
  simp only [cf, cr, cutF, cutr]
  rw [h1, h2, bs_len, bs_extract]
theorem Cor.crash {S : St} {rs : List RF} (h : Cor S.fs rs) (hn : (names S.fs).Nodup) (ks : List Int) : Cor (crs S ks).fs (crR rs ks) := by
  refine ⟨by unfold Srt; rw [crR_names]; exact h.srt, fun s => ?_⟩
  cases hl : lkp rs s with
  | none =>
    rw [look_crR s hl]
    have := @crs_is S ks s.data.toList
    rw [h.none hl] at this
    cases hq : seek (crs S ks).fs s.data.toList with
    | none => rfl
    | some f => rw [hq] at this; cases this
  | some r =>
    obtain ⟨hr, rfl⟩ := look_mem hl
    obtain ⟨i, hi, rfl⟩ := List.mem_iff_getElem.1 hr
    obtain ⟨f, hf, hc⟩ := h.some hl
    have e : (Lt.lst S.fs).getD i [] = rs[i].n.data.toList := by
      rw [h.lst hn, List.getD_eq_getElem?_getD, List.getElem?_map, List.getElem?_eq_getElem hi]; rfl
    have h1 := crs_at hn ks i (by rw [h.len hn]; exact hi) f (by rw [e]; exact hf)
    rw [e] at h1
    rw [h1]
    have h2 : cutr rs[i] (kpt ks i) ∈ crR rs ks := by
      refine List.mem_iff_getElem.2 ⟨i, by unfold crR; rw [List.length_mapIdx]; exact hi, ?_⟩
      unfold crR; rw [List.getElem_mapIdx]
    have h3 := look_of_mem (by unfold Srt; rw [crR_names]; exact h.srt) h2
    have h4 : lkp (crR rs ks) rs[i].n = Option.some (cutr rs[i] (kpt ks i)) := h3
    rw [h4]
    show Option.some _ = Option.some _
    rw [cut_same hc]
theorem cr_inj {a b : RF} (hn : a.n = b.n) (h : cr a = cr b) : a = b := by
  have h1 := congrArg Prod.fst h
  have h2 := congrArg Prod.snd h
  simp only [cr] at h1 h2
  have := bs_inj h1
  cases a; cases b; simp_all
theorem Cor.alike {fs fs2 : Fs} {rs rs2 : List RF} (h : Cor fs rs) (h2 : Cor fs2 rs2) (hn : (names fs).Nodup) (hn2 : (names fs2).Nodup) : Pw.Alike fs2 fs ↔ rs = rs2 := by
  constructor
  · intro A
    have e : rs.map (·.n.data.toList) = rs2.map (·.n.data.toList) := by
      rw [← h.lst hn, ← h2.lst hn2]; exact (lst_same hn2 hn A.is).symm
    have el : rs.length = rs2.length := by simpa using congrArg List.length e
    refine List.ext_getElem el fun i h3 h4 => ?_
    have en : rs[i].n = rs2[i].n := by
      have := congrArg (fun l => l[i]?) e
      simp only [List.getElem?_map, List.getElem?_eq_getElem h3, List.getElem?_eq_getElem h4, Option.map_some, Option.some.injEq] at this
      exact dl_inj this
    refine cr_inj en ?_
    obtain ⟨f, hf, hc⟩ := h.some (look_of_mem h.srt (List.getElem_mem h3))
    obtain ⟨f2, hf2, hc2⟩ := h2.some (look_of_mem h2.srt (List.getElem_mem h4))
    obtain ⟨sl, hs⟩ := A.at_ _ _ hf
    rw [en, hf2] at hs
    have := Option.some.inj hs
    rw [← hc, ← hc2, this]; rfl
  · rintro rfl
    refine ⟨hn2, fun s => ?_, fun s f hf => ?_⟩
    · have e : s = (⟨s.toArray⟩ : ByteArray).data.toList := by simp
      have h3 := h.same ⟨s.toArray⟩
      have h4 := h2.same ⟨s.toArray⟩
      rw [← e] at h3 h4
      have := congrArg Option.isSome (h4.trans h3.symm)
      simpa using this
    · have e : s = (⟨s.toArray⟩ : ByteArray).data.toList := by simp
      have h3 := h.same ⟨s.toArray⟩
      have h4 := h2.same ⟨s.toArray⟩
      rw [← e] at h3 h4
      rw [hf] at h3
      rw [← h3] at h4
      cases hq : seek fs2 s with
      | none => rw [hq] at h4; cases h4
      | some f2 =>
        rw [hq] at h4
        have := Option.some.inj h4
        have a1 := congrArg Prod.fst this
        have a2 := congrArg Prod.snd this
        simp only [cf] at a1 a2
        exact ⟨f2.sl, by rw [← a1, ← a2]⟩

/-- What the document's disk has. -/
structure RS where
  rs : List RF
  q : Int
  af : Int
  ct : Int
  rf : Int
structure Rel (S : St) (R : RS) : Prop where
  cor : Cor S.fs R.rs
  q : S.q = R.q
  af : S.af = R.af
  ct : S.ct = R.ct
  rf : S.rf = R.rf
/-- What try tells and leaves. -/
def rtr (R : RS) (full : Bool) : RS × Bool :=
  if 0 < R.af then ({ R with af := R.af - 1, rf := if full = true then R.rf + 1 else R.rf }, full)
  else if 0 < R.ct then ({ R with ct := R.ct - 1, rf := R.rf + 1 }, true)
  else ({ R with rf := if full = true then R.rf + 1 else R.rf }, full)
theorem rtr_rs (R : RS) (f : Bool) : (rtr R f).1.rs = R.rs := by
  unfold rtr; split
  · rfl
  · split <;> rfl
theorem Rel.tr {S : St} {R : RS} (h : Rel S R) (hok : S.ok) (f : Bool) : (tr S f).2 = (rtr R f).2 ∧ Rel (tr S f).1 (rtr R f).1 := by
  obtain ⟨h1, h2, h3, h4, h5⟩ := h
  have a := hok.af; have c := hok.ct
  unfold Dg.tr rtr
  rw [← h3, ← h4, ← h5]
  by_cases ha : 0 < S.af
  · have hx : nxt S.af S.ct = (S.af - 1, S.ct, false) := by unfold nxt; rw [if_neg (by omega), if_pos ha]
    rw [hx, if_pos ha]
    cases f
    · exact ⟨rfl, h1, h2, rfl, rfl, rfl⟩
    · exact ⟨rfl, h1, h2, rfl, rfl, rfl⟩
  · rw [if_neg ha]
    by_cases hc : 0 < S.ct
    · have hx : nxt S.af S.ct = (0, S.ct - 1, true) := by unfold nxt; rw [if_neg (by omega), if_neg ha]
      rw [hx, if_pos hc]
      exact ⟨rfl, h1, h2, by show (0 : Int) = S.af; omega, rfl, rfl⟩
    · have hx : nxt S.af S.ct = (0, 0, false) := by unfold nxt; rw [if_pos (by omega)]
      rw [hx, if_neg hc]
      cases f
      · exact ⟨rfl, h1, h2, by show (0 : Int) = S.af; omega, by show (0 : Int) = S.ct; omega, rfl⟩
      · exact ⟨rfl, h1, h2, by show (0 : Int) = S.af; omega, by show (0 : Int) = S.ct; omega, rfl⟩
/-- What the document's find tells: the name is none, it is not there, it is there. -/
def rfd (R : RS) (s : ByteArray) : Int := if isN s = false then 2 else match lkp R.rs s with | none => 51 | some _ => 0
theorem Rel.fnd {S : St} {R : RS} (h : Rel S R) (s : ByteArray) : (fnd S s).2 = rfd R s := by
  unfold Df.fnd rfd
  split
  · rfl
  · cases hl : lkp R.rs s with
    | none => rw [h.cor.none hl]
    | some r => obtain ⟨f, hf, _⟩ := h.cor.some hl; rw [hf]
theorem Rel.found {S : St} {R : RS} (h : Rel S R) {s : ByteArray} {r : RF} (hi : isN s = true) (hl : lkp R.rs s = some r) : seek S.fs s.data.toList = some (Df.fnd S s).1 ∧ cf (Df.fnd S s).1 = cr r := by
  obtain ⟨f, hf, hc⟩ := h.cor.some hl
  unfold Df.fnd
  rw [if_neg (by rw [hi]; simp), hf]
  exact ⟨rfl, hc⟩
/-- The document's calls. -/
def rcrt (R : RS) (s : ByteArray) : RS × Int :=
  if isN s = false then (R, 2) else match lkp R.rs s with
  | some _ => (R, 50)
  | none => if (rtr R (decide (4096 ≤ R.rs.length))).2 = true then ((rtr R (decide (4096 ≤ R.rs.length))).1, 52) else ({ (rtr R (decide (4096 ≤ R.rs.length))).1 with rs := up s ⟨s, ⟨#[]⟩, 0⟩ R.rs }, 0)
def rbig (R : RS) (n : Nat) : Bool := decide (R.q < (tot R.rs : Nat) + (n : Int))
def rapd (R : RS) (s b : ByteArray) : RS × Int :=
  if isN s = false then (R, 2) else match lkp R.rs s with
  | none => (R, 51)
  | some r => if (rtr R (rbig R b.size)).2 = true then ((rtr R (rbig R b.size)).1, 52) else ({ (rtr R (rbig R b.size)).1 with rs := up s ⟨s, r.b ++ b, r.k⟩ R.rs }, 0)
def rsyn (R : RS) (s : ByteArray) : RS × Int :=
  if isN s = false then (R, 2) else match lkp R.rs s with
  | none => (R, 51)
  | some r => ({ R with rs := up s ⟨s, r.b, r.b.size⟩ R.rs }, 0)
def rrmv (R : RS) (s : ByteArray) : RS × Int :=
  if isN s = false then (R, 2) else match lkp R.rs s with
  | none => (R, 51)
  | some r => ({ R with rs := rm s R.rs }, 0)
def rrnm (R : RS) (s t : ByteArray) : RS × Int :=
  if isN s = false ∨ isN t = false then (R, 2) else match lkp R.rs s with
  | none => (R, 51)
  | some r => if s = t then (R, 0) else ({ R with rs := up t ⟨t, r.b, r.k⟩ (rm s R.rs) }, 0)
def rqta (R : RS) (n : Int) : RS × Int := if isQ n = true then ({ R with q := n }, 0) else (R, 2)
def rrfs (R : RS) (a n : Int) : RS × Int := if 0 ≤ a ∧ 0 ≤ n then ({ R with af := a, ct := n }, 0) else (R, 2)
def rcrs (R : RS) (ks : List Int) : RS × Int := ({ R with rs := crR R.rs ks, af := 0, ct := 0 }, 0)
theorem Rel.crt {S : St} {R : RS} (h : Rel S R) (hok : S.ok) (hn : (names S.fs).Nodup) (s : ByteArray) : (crt S s).2 = (rcrt R s).2 ∧ Rel (crt S s).1 (rcrt R s).1 := by
  have e := h.fnd s
  have hf : full S = decide (4096 ≤ R.rs.length) := by unfold full; rw [h.cor.len hn]
  have ht := h.tr hok (decide (4096 ≤ R.rs.length))
  unfold Dh.crt rcrt
  unfold rfd at e
  rw [e, hf]
  split
  · simp; exact h
  · cases hl : lkp R.rs s with
    | some r => simp; exact h
    | none =>
      simp only [if_pos]
      rw [ht.1]
      split
      · exact ⟨rfl, ht.2⟩
      · refine ⟨rfl, ?_, ht.2.q, ht.2.af, ht.2.ct, ht.2.rf⟩
        exact h.cor.put rfl (by simp [cf, cr, nilF, bs])
theorem Rel.apd {S : St} {R : RS} (h : Rel S R) (hok : S.ok) (hn : (names S.fs).Nodup) (s b : ByteArray) (sl : Value) : (apd S s (bs b) sl).2 = (rapd R s b).2 ∧ Rel (apd S s (bs b) sl).1 (rapd R s b).1 := by
  have e := h.fnd s
  have hf : big S (bs b).length = rbig R b.size := by
    unfold big rbig; rw [h.cor.used hn, bs_len, h.q]
    exact decide_eq_decide.2 (by omega)
  have ht := h.tr hok (rbig R b.size)
  unfold Ap.apd rapd
  rw [e, hf]
  unfold rfd
  split
  · rename_i hi
    simp; exact h
  · rename_i hi
    cases hl : lkp R.rs s with
    | none => simp; exact h
    | some r =>
      simp only [if_pos]
      have hg := h.found (by simpa using hi) hl
      rw [ht.1]
      split
      · exact ⟨rfl, ht.2⟩
      · refine ⟨rfl, ?_, ht.2.q, ht.2.af, ht.2.ct, ht.2.rf⟩
        refine h.cor.put rfl ?_
        have a1 := congrArg Prod.fst hg.2
        have a2 := congrArg Prod.snd hg.2
        simp only [cf, cr] at a1 a2 ⊢
        rw [a1, a2]
        simp [bs]
theorem Rel.syn {S : St} {R : RS} (h : Rel S R) (s : ByteArray) : (syn S s).2 = (rsyn R s).2 ∧ Rel (syn S s).1 (rsyn R s).1 := by
  have e := h.fnd s
  unfold Dh.syn rsyn
  rw [e]
  unfold rfd
  split
  · simp; exact h
  · rename_i hi
    cases hl : lkp R.rs s with
    | none => simp; exact h
    | some r =>
      simp only [if_pos]
      have hg := h.found (by simpa using hi) hl
      refine ⟨by first | rfl | trivial, ?_, h.q, h.af, h.ct, h.rf⟩
      refine h.cor.put rfl ?_
      have a1 := congrArg Prod.fst hg.2
      simp only [cf, cr] at a1 ⊢
      rw [a1, bs_len]
theorem Rel.rmv {S : St} {R : RS} (h : Rel S R) (s : ByteArray) : (rmv S s).2 = (rrmv R s).2 ∧ Rel (rmv S s).1 (rrmv R s).1 := by
  have e := h.fnd s
  unfold Di.rmv rrmv
  rw [e]
  unfold rfd
  split
  · simp; exact h
  · rename_i hi
    cases hl : lkp R.rs s with
    | none => simp; exact h
    | some r =>
      simp only [if_pos]
      exact ⟨by first | rfl | trivial, h.cor.del s, h.q, h.af, h.ct, h.rf⟩
theorem Rel.rnm {S : St} {R : RS} (h : Rel S R) (s t : ByteArray) : (rnm S s t).2 = (rrnm R s t).2 ∧ Rel (rnm S s t).1 (rrnm R s t).1 := by
  have e := h.fnd s
  by_cases h1 : isN s = false
  · have e1 : (Df.fnd S s).2 = 2 := by rw [e]; unfold rfd; rw [if_pos h1]
    have e2 : Di.rnm S s t = (S, 2) := by unfold Di.rnm; rw [if_neg (by rw [e1]; simp), if_neg (by rw [e1]; decide), e1]
    have e3 : rrnm R s t = (R, 2) := by unfold rrnm; rw [if_pos (.inl h1)]
    rw [e2, e3]; exact ⟨rfl, h⟩
  · by_cases h2 : isN t = false
    · have e1 : (Df.fnd S s).2 = 0 ∨ (Df.fnd S s).2 = 51 := by
        rw [e]; unfold rfd; rw [if_neg h1]
        cases lkp R.rs s <;> simp
      have e2 : Di.rnm S s t = (S, 2) := by unfold Di.rnm; rw [if_pos ⟨e1, h2⟩]
      have e3 : rrnm R s t = (R, 2) := by unfold rrnm; rw [if_pos (.inr h2)]
      rw [e2, e3]; exact ⟨rfl, h⟩
    · cases hl : lkp R.rs s with
      | none =>
        have e1 : (Df.fnd S s).2 = 51 := by rw [e]; unfold rfd; rw [if_neg h1, hl]
        have e2 : Di.rnm S s t = (S, 51) := by unfold Di.rnm; rw [if_neg (fun x => h2 x.2), if_neg (by rw [e1]; decide), e1]
        have e3 : rrnm R s t = (R, 51) := by unfold rrnm; rw [if_neg (by simp [h1, h2]), hl]
        rw [e2, e3]; exact ⟨rfl, h⟩
      | some r =>
        have e1 : (Df.fnd S s).2 = 0 := by rw [e]; unfold rfd; rw [if_neg h1, hl]
        have hg := h.found (by simpa using h1) hl
        have e2 : Di.rnm S s t = ({ S with fs := Mp.put (Mp.del S.fs s.data.toList) t.data.toList (Df.fnd S s).1 }, 0) := by unfold Di.rnm; rw [if_neg (fun x => h2 x.2), if_pos e1]
        have e3 : rrnm R s t = if s = t then (R, 0) else ({ R with rs := up t ⟨t, r.b, r.k⟩ (rm s R.rs) }, 0) := by unfold rrnm; rw [if_neg (by simp [h1, h2]), hl]
        rw [e2, e3]
        have c2 : Cor (Mp.put (Mp.del S.fs s.data.toList) t.data.toList (Df.fnd S s).1) (up t ⟨t, r.b, r.k⟩ (rm s R.rs)) := by
          refine (h.cor.del s).put rfl ?_
          rw [hg.2]; rfl
        by_cases hst : s = t
        · rw [if_pos hst]
          refine ⟨rfl, ?_, h.q, h.af, h.ct, h.rf⟩
          refine ⟨h.cor.srt, fun x => ?_⟩
          show Option.map cf (seek (Mp.put (Mp.del S.fs s.data.toList) t.data.toList (Df.fnd S s).1) x.data.toList) = Option.map cr (lkp R.rs x)
          rw [c2.same x, look_up (srt_rm h.cor.srt s) (x := ⟨t, r.b, r.k⟩) (s := t) rfl, look_rm h.cor.srt]
          by_cases hx : x = t
          · rw [if_pos hx, hx, ← hst, hl]; exact congrArg Option.some rfl
          · rw [if_neg hx, if_neg (by rw [hst]; exact hx)]
        · rw [if_neg hst]
          exact ⟨rfl, c2, h.q, h.af, h.ct, h.rf⟩
theorem Rel.crs {S : St} {R : RS} (h : Rel S R) (hn : (names S.fs).Nodup) (ks : List Int) : Rel (crs S ks) (rcrs R ks).1 :=
  ⟨h.cor.crash hn ks, h.q, rfl, rfl, h.rf⟩
end Go.Proofs.Ytgffojafdjcdoaa.Pd
