/- done at the document's disk, all kinds. -/
import Derived.Test.YtgffojafdjcdoaaQf
import Derived.Test.YtgffojafdjcdoaaQh
import Derived.Test.YtgffojafdjcdoaaQj
import Derived.Test.YtgffojafdjcdoaaQk
namespace Go.Proofs.Ytgffojafdjcdoaa.Ql
open Go.ChangeShapes Go.WideShapes Go.ChangeAt Go.RowKit Go.Maps
open Go.Sort (grow)
open Go.Proofs.Ytgffojafdjcdoaa.By
open Go.Proofs.Ytgffojafdjcdoaa.Ac
open Go.Proofs.Ytgffojafdjcdoaa.Dk
open Go.Proofs.Ytgffojafdjcdoaa.Df (isN isQ isN_size)
open Go.Proofs.Ytgffojafdjcdoaa.Pd
open Go.Proofs.Ytgffojafdjcdoaa.Qa
open Go.Proofs.Ytgffojafdjcdoaa.Qb
open Go.Proofs.Ytgffojafdjcdoaa.Qc
open Go.Proofs.Ytgffojafdjcdoaa.Qd
open Go.Proofs.Ytgffojafdjcdoaa.Qe
open Go.Proofs.Ytgffojafdjcdoaa.Qg
open Go.Proofs.Ytgffojafdjcdoaa.Qk (stepS st0 st1 st2 st3 st4 st5 st6 st7 sto)
set_option linter.unusedVariables false
set_option linter.unusedSimpArgs false
/-- What an act does to the document's disk. -/
def stepR (x : A) (R : RS) : RS × Int :=
  if x.kind = 0 then rcrt R x.name else if x.kind = 1 then rapd R x.name (str x.zs) else if x.kind = 2 then rsyn R x.name else if x.kind = 3 then rrnm R x.name x.to
  else if x.kind = 4 then rrmv R x.name else if x.kind = 5 then rqta R x.n else if x.kind = 6 then rrfs R x.at_ x.n else if x.kind = 7 then rcrs R x.ks else (R, 0)
theorem sr0 {x : A} {R : RS} (h : x.kind = 0) : stepR x R = rcrt R x.name := by unfold stepR; rw [if_pos h]
theorem sr1 {x : A} {R : RS} (h : x.kind = 1) : stepR x R = rapd R x.name (str x.zs) := by unfold stepR; rw [if_neg (by omega)]; rw [if_pos h]
theorem sr2 {x : A} {R : RS} (h : x.kind = 2) : stepR x R = rsyn R x.name := by unfold stepR; rw [if_neg (by omega)]; rw [if_neg (by omega)]; rw [if_pos h]
theorem sr3 {x : A} {R : RS} (h : x.kind = 3) : stepR x R = rrnm R x.name x.to := by unfold stepR; rw [if_neg (by omega)]; rw [if_neg (by omega)]; rw [if_neg (by omega)]; rw [if_pos h]
theorem sr4 {x : A} {R : RS} (h : x.kind = 4) : stepR x R = rrmv R x.name := by unfold stepR; rw [if_neg (by omega)]; rw [if_neg (by omega)]; rw [if_neg (by omega)]; rw [if_neg (by omega)]; rw [if_pos h]
theorem sr5 {x : A} {R : RS} (h : x.kind = 5) : stepR x R = rqta R x.n := by unfold stepR; rw [if_neg (by omega)]; rw [if_neg (by omega)]; rw [if_neg (by omega)]; rw [if_neg (by omega)]; rw [if_neg (by omega)]; rw [if_pos h]
theorem sr6 {x : A} {R : RS} (h : x.kind = 6) : stepR x R = rrfs R x.at_ x.n := by unfold stepR; rw [if_neg (by omega)]; rw [if_neg (by omega)]; rw [if_neg (by omega)]; rw [if_neg (by omega)]; rw [if_neg (by omega)]; rw [if_neg (by omega)]; rw [if_pos h]
theorem sr7 {x : A} {R : RS} (h : x.kind = 7) : stepR x R = rcrs R x.ks := by unfold stepR; rw [if_neg (by omega)]; rw [if_neg (by omega)]; rw [if_neg (by omega)]; rw [if_neg (by omega)]; rw [if_neg (by omega)]; rw [if_neg (by omega)]; rw [if_neg (by omega)]; rw [if_pos h]
theorem sro {x : A} {R : RS} (h : x.kind < 0 ∨ 7 < x.kind) : stepR x R = (R, 0) := by unfold stepR; rw [if_neg (by omega)]; rw [if_neg (by omega)]; rw [if_neg (by omega)]; rw [if_neg (by omega)]; rw [if_neg (by omega)]; rw [if_neg (by omega)]; rw [if_neg (by omega)]; rw [if_neg (by omega)]
theorem fold_data : ∀ (ns : List Int) (b : ByteArray), (ns.foldl (fun r n => r.push (UInt8.ofNat n.toNat)) b).data.toList = b.data.toList ++ ns.map (fun n => UInt8.ofNat n.toNat)
  | [], b => by simp
  | n :: ns, b => by rw [List.foldl_cons, fold_data ns]; simp [ByteArray.push]
theorem bs_str (zs : List Int) (h : ∀ y ∈ zs, 0 ≤ y ∧ y ≤ 255) : bs (str zs) = zs := by
  unfold bs str
  rw [fold_data]
  have e0 : ByteArray.empty.data.toList = [] := rfl
  rw [e0, List.nil_append, List.map_map]
  conv => rhs; rw [← List.map_id zs]
  refine List.map_congr_left fun y hy => ?_
  obtain ⟨h1, h2⟩ := h y hy
  simp only [Function.comp, id]
  rw [UInt8.toNat_ofNat_of_lt' (by simp [UInt8.size]; omega)]
  omega
/-- Both disks do an act alike. -/
theorem step_rel {S : St} {R : RS} (h : Rel S R) (hok : S.ok) (hn : (Mp.names S.fs).Nodup) (x : A) (hz : ∀ y ∈ x.zs, 0 ≤ y ∧ y ≤ 255) (sl : Value) : (stepS x S sl).2 = (stepR x R).2 ∧ Rel (stepS x S sl).1 (stepR x R).1 := by
  by_cases ho : x.kind < 0 ∨ 7 < x.kind
  · rw [sto ho, sro ho]; exact ⟨rfl, h⟩
  · have : x.kind = 0 ∨ x.kind = 1 ∨ x.kind = 2 ∨ x.kind = 3 ∨ x.kind = 4 ∨ x.kind = 5 ∨ x.kind = 6 ∨ x.kind = 7 := by omega
    rcases this with k | k | k | k | k | k | k | k
    · rw [st0 k, sr0 k]; exact h.crt hok hn x.name
    · rw [st1 k, sr1 k]
      have := h.apd hok hn x.name (str x.zs) sl
      rwa [bs_str x.zs hz] at this
    · rw [st2 k, sr2 k]; exact h.syn x.name
    · rw [st3 k, sr3 k]; exact h.rnm x.name x.to
    · rw [st4 k, sr4 k]; exact h.rmv x.name
    · rw [st5 k, sr5 k]
      unfold rqta
      by_cases q : isQ x.n = true
      · rw [if_pos q, if_pos q, if_pos q]; exact ⟨rfl, h.cor, rfl, h.af, h.ct, h.rf⟩
      · rw [if_neg q, if_neg q, if_neg q]; exact ⟨rfl, h⟩
    · rw [st6 k, sr6 k]
      unfold rrfs
      by_cases q : 0 ≤ x.at_ ∧ 0 ≤ x.n
      · rw [if_pos q, if_pos q, if_pos q]; exact ⟨rfl, h.cor, h.q, rfl, rfl, h.rf⟩
      · rw [if_neg q, if_neg q, if_neg q]; exact ⟨rfl, h⟩
    · rw [st7 k, sr7 k]; exact ⟨rfl, h.crs hn x.ks⟩
set_option maxRecDepth 100000 in
set_option maxHeartbeats 2000000 in
theorem done_0 {base g : Nat} {v : Value} {P : Nat → Prop} {R : RS} (x : A) (w : World) (H : RDk w base g v P R) (hok : RS.ok R) (hb : base ≤ w.heap.size) (hrf : R.rf < 4611686018427387904) (hx : x.ok w) (hnm : x.name.size ≤ 9223372036854775807) (hto : x.to.size ≤ 9223372036854775807) (hkp : ∀ y, x.ka = some y → 0 < x.kl → ¬ P y.block) (hk : x.kind = 0) :
    Calls Try.prog 12 #[.pointer (some ⟨g, 0, none⟩), .agg #[.int .i64 x.kind, .string x.name, .string x.to, .slice x.ba x.bl x.bc, .int .i64 x.at_, .int .i64 x.n, .slice x.ka x.kl x.kc]] w fun e w' => ∃ c, e = .returned (.int .i64 c) ∧ c = (stepR x R).2 ∧ Tk w w' base g P (stepR x R).1 := by
  rw [sr0 hk]
  obtain ⟨W0, hW0⟩ : ∃ W0, W0 = w.alloc (.cells x.cells 35) := ⟨_, rfl⟩
  have bb : Below w.heap.size w W0 := by rw [hW0]; exact box_below _ _
  have BX : Bx W0 w.heap.size x := by rw [hW0]; exact new_at _ _
  have HN := hid (H.later bb)
  have HX := hid (hx.later bb)
  have BB := hid bb
  have hb0 : Hid (base ≤ W0.heap.size) := Nat.le_trans hb bb.size
  have eW : w.alloc (.cells #[.int .i64 x.kind, .string x.name, .string x.to, .slice x.ba x.bl x.bc, .int .i64 x.at_, .int .i64 x.n, .slice x.ka x.kl x.kc] 35) = W0 := by rw [hW0]; rfl
  have c0 : W0.cell? ⟨w.heap.size, 0, none⟩ = some (.int .i64 x.kind) := BX.cell 0
  have c1 : W0.cell? ⟨w.heap.size, 1, none⟩ = some (.string x.name) := BX.cell 1
  have c2 : W0.cell? ⟨w.heap.size, 2, none⟩ = some (.string x.to) := BX.cell 2
  have c3 : W0.cell? ⟨w.heap.size, 3, none⟩ = some (.slice x.ba x.bl x.bc) := BX.cell 3
  have c4 : W0.cell? ⟨w.heap.size, 4, none⟩ = some (.int .i64 x.at_) := BX.cell 4
  have c5 : W0.cell? ⟨w.heap.size, 5, none⟩ = some (.int .i64 x.n) := BX.cell 5
  have c6 : W0.cell? ⟨w.heap.size, 6, none⟩ = some (.slice x.ka x.kl x.kc) := BX.cell 6
  clear hW0 BX
  have HC := hid (create_any x.name hnm W0 HN.out hok hb0.out hrf)
  obtain ⟨cc, hcc⟩ : ∃ cc, cc = (rcrt R x.name).2 := ⟨_, rfl⟩
  rw [← hcc] at HC ⊢
  replace hcc := hid hcc
  rw [hk] at c0 eW
  rw [hk]
  clear H hx bb
  go_enter Try.func12, Try.ntmps12
  go_wp2_with fail
  refine HC.out.mono ?_
  rintro e w' ⟨rfl, T'⟩
  have TT := hid (tk_behind BB.out T')
  clear T'
  go_wp2_with fail
  go_ret
  exact ⟨_, rfl, rfl, TT.out⟩
set_option maxRecDepth 100000 in
set_option maxHeartbeats 2000000 in
theorem done_2 {base g : Nat} {v : Value} {P : Nat → Prop} {R : RS} (x : A) (w : World) (H : RDk w base g v P R) (hok : RS.ok R) (hb : base ≤ w.heap.size) (hrf : R.rf < 4611686018427387904) (hx : x.ok w) (hnm : x.name.size ≤ 9223372036854775807) (hto : x.to.size ≤ 9223372036854775807) (hkp : ∀ y, x.ka = some y → 0 < x.kl → ¬ P y.block) (hk : x.kind = 2) :
    Calls Try.prog 12 #[.pointer (some ⟨g, 0, none⟩), .agg #[.int .i64 x.kind, .string x.name, .string x.to, .slice x.ba x.bl x.bc, .int .i64 x.at_, .int .i64 x.n, .slice x.ka x.kl x.kc]] w fun e w' => ∃ c, e = .returned (.int .i64 c) ∧ c = (stepR x R).2 ∧ Tk w w' base g P (stepR x R).1 := by
  rw [sr2 hk]
  obtain ⟨W0, hW0⟩ : ∃ W0, W0 = w.alloc (.cells x.cells 35) := ⟨_, rfl⟩
  have bb : Below w.heap.size w W0 := by rw [hW0]; exact box_below _ _
  have BX : Bx W0 w.heap.size x := by rw [hW0]; exact new_at _ _
  have HN := hid (H.later bb)
  have HX := hid (hx.later bb)
  have BB := hid bb
  have hb0 : Hid (base ≤ W0.heap.size) := Nat.le_trans hb bb.size
  have eW : w.alloc (.cells #[.int .i64 x.kind, .string x.name, .string x.to, .slice x.ba x.bl x.bc, .int .i64 x.at_, .int .i64 x.n, .slice x.ka x.kl x.kc] 35) = W0 := by rw [hW0]; rfl
  have c0 : W0.cell? ⟨w.heap.size, 0, none⟩ = some (.int .i64 x.kind) := BX.cell 0
  have c1 : W0.cell? ⟨w.heap.size, 1, none⟩ = some (.string x.name) := BX.cell 1
  have c2 : W0.cell? ⟨w.heap.size, 2, none⟩ = some (.string x.to) := BX.cell 2
  have c3 : W0.cell? ⟨w.heap.size, 3, none⟩ = some (.slice x.ba x.bl x.bc) := BX.cell 3
  have c4 : W0.cell? ⟨w.heap.size, 4, none⟩ = some (.int .i64 x.at_) := BX.cell 4
  have c5 : W0.cell? ⟨w.heap.size, 5, none⟩ = some (.int .i64 x.n) := BX.cell 5
  have c6 : W0.cell? ⟨w.heap.size, 6, none⟩ = some (.slice x.ka x.kl x.kc) := BX.cell 6
  clear hW0 BX
  have HC := hid (sync_any x.name hnm W0 HN.out hok hb0.out)
  obtain ⟨cc, hcc⟩ : ∃ cc, cc = (rsyn R x.name).2 := ⟨_, rfl⟩
  rw [← hcc] at HC ⊢
  replace hcc := hid hcc
  rw [hk] at c0 eW
  rw [hk]
  clear H hx bb
  go_enter Try.func12, Try.ntmps12
  go_wp2_with fail
  refine HC.out.mono ?_
  rintro e w' ⟨rfl, T'⟩
  have TT := hid (tk_behind BB.out T')
  clear T'
  go_wp2_with fail
  go_ret
  exact ⟨_, rfl, rfl, TT.out⟩
set_option maxRecDepth 100000 in
set_option maxHeartbeats 2000000 in
theorem done_3 {base g : Nat} {v : Value} {P : Nat → Prop} {R : RS} (x : A) (w : World) (H : RDk w base g v P R) (hok : RS.ok R) (hb : base ≤ w.heap.size) (hrf : R.rf < 4611686018427387904) (hx : x.ok w) (hnm : x.name.size ≤ 9223372036854775807) (hto : x.to.size ≤ 9223372036854775807) (hkp : ∀ y, x.ka = some y → 0 < x.kl → ¬ P y.block) (hk : x.kind = 3) :
    Calls Try.prog 12 #[.pointer (some ⟨g, 0, none⟩), .agg #[.int .i64 x.kind, .string x.name, .string x.to, .slice x.ba x.bl x.bc, .int .i64 x.at_, .int .i64 x.n, .slice x.ka x.kl x.kc]] w fun e w' => ∃ c, e = .returned (.int .i64 c) ∧ c = (stepR x R).2 ∧ Tk w w' base g P (stepR x R).1 := by
  rw [sr3 hk]
  obtain ⟨W0, hW0⟩ : ∃ W0, W0 = w.alloc (.cells x.cells 35) := ⟨_, rfl⟩
  have bb : Below w.heap.size w W0 := by rw [hW0]; exact box_below _ _
  have BX : Bx W0 w.heap.size x := by rw [hW0]; exact new_at _ _
  have HN := hid (H.later bb)
  have HX := hid (hx.later bb)
  have BB := hid bb
  have hb0 : Hid (base ≤ W0.heap.size) := Nat.le_trans hb bb.size
  have eW : w.alloc (.cells #[.int .i64 x.kind, .string x.name, .string x.to, .slice x.ba x.bl x.bc, .int .i64 x.at_, .int .i64 x.n, .slice x.ka x.kl x.kc] 35) = W0 := by rw [hW0]; rfl
  have c0 : W0.cell? ⟨w.heap.size, 0, none⟩ = some (.int .i64 x.kind) := BX.cell 0
  have c1 : W0.cell? ⟨w.heap.size, 1, none⟩ = some (.string x.name) := BX.cell 1
  have c2 : W0.cell? ⟨w.heap.size, 2, none⟩ = some (.string x.to) := BX.cell 2
  have c3 : W0.cell? ⟨w.heap.size, 3, none⟩ = some (.slice x.ba x.bl x.bc) := BX.cell 3
  have c4 : W0.cell? ⟨w.heap.size, 4, none⟩ = some (.int .i64 x.at_) := BX.cell 4
  have c5 : W0.cell? ⟨w.heap.size, 5, none⟩ = some (.int .i64 x.n) := BX.cell 5
  have c6 : W0.cell? ⟨w.heap.size, 6, none⟩ = some (.slice x.ka x.kl x.kc) := BX.cell 6
  clear hW0 BX
  have HC := hid (Qf.rename_any x.name hnm x.to hto W0 HN.out hok hb0.out)
  obtain ⟨cc, hcc⟩ : ∃ cc, cc = (rrnm R x.name x.to).2 := ⟨_, rfl⟩
  rw [← hcc] at HC ⊢
  replace hcc := hid hcc
  rw [hk] at c0 eW
  rw [hk]
  clear H hx bb
  go_enter Try.func12, Try.ntmps12
  go_wp2_with fail
  refine HC.out.mono ?_
  rintro e w' ⟨rfl, T'⟩
  have TT := hid (tk_behind BB.out T')
  clear T'
  go_wp2_with fail
  go_ret
  exact ⟨_, rfl, rfl, TT.out⟩
set_option maxRecDepth 100000 in
set_option maxHeartbeats 2000000 in
theorem done_4 {base g : Nat} {v : Value} {P : Nat → Prop} {R : RS} (x : A) (w : World) (H : RDk w base g v P R) (hok : RS.ok R) (hb : base ≤ w.heap.size) (hrf : R.rf < 4611686018427387904) (hx : x.ok w) (hnm : x.name.size ≤ 9223372036854775807) (hto : x.to.size ≤ 9223372036854775807) (hkp : ∀ y, x.ka = some y → 0 < x.kl → ¬ P y.block) (hk : x.kind = 4) :
    Calls Try.prog 12 #[.pointer (some ⟨g, 0, none⟩), .agg #[.int .i64 x.kind, .string x.name, .string x.to, .slice x.ba x.bl x.bc, .int .i64 x.at_, .int .i64 x.n, .slice x.ka x.kl x.kc]] w fun e w' => ∃ c, e = .returned (.int .i64 c) ∧ c = (stepR x R).2 ∧ Tk w w' base g P (stepR x R).1 := by
  rw [sr4 hk]
  obtain ⟨W0, hW0⟩ : ∃ W0, W0 = w.alloc (.cells x.cells 35) := ⟨_, rfl⟩
  have bb : Below w.heap.size w W0 := by rw [hW0]; exact box_below _ _
  have BX : Bx W0 w.heap.size x := by rw [hW0]; exact new_at _ _
  have HN := hid (H.later bb)
  have HX := hid (hx.later bb)
  have BB := hid bb
  have hb0 : Hid (base ≤ W0.heap.size) := Nat.le_trans hb bb.size
  have eW : w.alloc (.cells #[.int .i64 x.kind, .string x.name, .string x.to, .slice x.ba x.bl x.bc, .int .i64 x.at_, .int .i64 x.n, .slice x.ka x.kl x.kc] 35) = W0 := by rw [hW0]; rfl
  have c0 : W0.cell? ⟨w.heap.size, 0, none⟩ = some (.int .i64 x.kind) := BX.cell 0
  have c1 : W0.cell? ⟨w.heap.size, 1, none⟩ = some (.string x.name) := BX.cell 1
  have c2 : W0.cell? ⟨w.heap.size, 2, none⟩ = some (.string x.to) := BX.cell 2
  have c3 : W0.cell? ⟨w.heap.size, 3, none⟩ = some (.slice x.ba x.bl x.bc) := BX.cell 3
  have c4 : W0.cell? ⟨w.heap.size, 4, none⟩ = some (.int .i64 x.at_) := BX.cell 4
  have c5 : W0.cell? ⟨w.heap.size, 5, none⟩ = some (.int .i64 x.n) := BX.cell 5
  have c6 : W0.cell? ⟨w.heap.size, 6, none⟩ = some (.slice x.ka x.kl x.kc) := BX.cell 6
  clear hW0 BX
  have HC := hid (remove_any x.name hnm W0 HN.out hok hb0.out)
  obtain ⟨cc, hcc⟩ : ∃ cc, cc = (rrmv R x.name).2 := ⟨_, rfl⟩
  rw [← hcc] at HC ⊢
  replace hcc := hid hcc
  rw [hk] at c0 eW
  rw [hk]
  clear H hx bb
  go_enter Try.func12, Try.ntmps12
  go_wp2_with fail
  refine HC.out.mono ?_
  rintro e w' ⟨rfl, T'⟩
  have TT := hid (tk_behind BB.out T')
  clear T'
  go_wp2_with fail
  go_ret
  exact ⟨_, rfl, rfl, TT.out⟩
set_option maxRecDepth 100000 in
set_option maxHeartbeats 2000000 in
theorem done_5 {base g : Nat} {v : Value} {P : Nat → Prop} {R : RS} (x : A) (w : World) (H : RDk w base g v P R) (hok : RS.ok R) (hb : base ≤ w.heap.size) (hrf : R.rf < 4611686018427387904) (hx : x.ok w) (hnm : x.name.size ≤ 9223372036854775807) (hto : x.to.size ≤ 9223372036854775807) (hkp : ∀ y, x.ka = some y → 0 < x.kl → ¬ P y.block) (hk : x.kind = 5) :
    Calls Try.prog 12 #[.pointer (some ⟨g, 0, none⟩), .agg #[.int .i64 x.kind, .string x.name, .string x.to, .slice x.ba x.bl x.bc, .int .i64 x.at_, .int .i64 x.n, .slice x.ka x.kl x.kc]] w fun e w' => ∃ c, e = .returned (.int .i64 c) ∧ c = (stepR x R).2 ∧ Tk w w' base g P (stepR x R).1 := by
  rw [sr5 hk]
  obtain ⟨W0, hW0⟩ : ∃ W0, W0 = w.alloc (.cells x.cells 35) := ⟨_, rfl⟩
  have bb : Below w.heap.size w W0 := by rw [hW0]; exact box_below _ _
  have BX : Bx W0 w.heap.size x := by rw [hW0]; exact new_at _ _
  have HN := hid (H.later bb)
  have HX := hid (hx.later bb)
  have BB := hid bb
  have hb0 : Hid (base ≤ W0.heap.size) := Nat.le_trans hb bb.size
  have eW : w.alloc (.cells #[.int .i64 x.kind, .string x.name, .string x.to, .slice x.ba x.bl x.bc, .int .i64 x.at_, .int .i64 x.n, .slice x.ka x.kl x.kc] 35) = W0 := by rw [hW0]; rfl
  have c0 : W0.cell? ⟨w.heap.size, 0, none⟩ = some (.int .i64 x.kind) := BX.cell 0
  have c1 : W0.cell? ⟨w.heap.size, 1, none⟩ = some (.string x.name) := BX.cell 1
  have c2 : W0.cell? ⟨w.heap.size, 2, none⟩ = some (.string x.to) := BX.cell 2
  have c3 : W0.cell? ⟨w.heap.size, 3, none⟩ = some (.slice x.ba x.bl x.bc) := BX.cell 3
  have c4 : W0.cell? ⟨w.heap.size, 4, none⟩ = some (.int .i64 x.at_) := BX.cell 4
  have c5 : W0.cell? ⟨w.heap.size, 5, none⟩ = some (.int .i64 x.n) := BX.cell 5
  have c6 : W0.cell? ⟨w.heap.size, 6, none⟩ = some (.slice x.ka x.kl x.kc) := BX.cell 6
  clear hW0 BX
  have HC := hid (rquota_any x.n W0 HN.out)
  obtain ⟨cc, hcc⟩ : ∃ cc, cc = (rqta R x.n).2 := ⟨_, rfl⟩
  rw [← hcc] at HC ⊢
  replace hcc := hid hcc
  rw [hk] at c0 eW
  rw [hk]
  clear H hx bb
  go_enter Try.func12, Try.ntmps12
  go_wp2_with fail
  refine HC.out.mono ?_
  rintro e w' ⟨rfl, D', F'⟩
  have TT : Hid (Tk w w' base g P (rqta R x.n).1) := ⟨v, P, D', fr_before BB.out F', fun j h => .inl h⟩
  clear D' F'
  go_wp2_with fail
  go_ret
  exact ⟨_, rfl, rfl, TT.out⟩
set_option maxRecDepth 100000 in
set_option maxHeartbeats 2000000 in
theorem done_6 {base g : Nat} {v : Value} {P : Nat → Prop} {R : RS} (x : A) (w : World) (H : RDk w base g v P R) (hok : RS.ok R) (hb : base ≤ w.heap.size) (hrf : R.rf < 4611686018427387904) (hx : x.ok w) (hnm : x.name.size ≤ 9223372036854775807) (hto : x.to.size ≤ 9223372036854775807) (hkp : ∀ y, x.ka = some y → 0 < x.kl → ¬ P y.block) (hk : x.kind = 6) :
    Calls Try.prog 12 #[.pointer (some ⟨g, 0, none⟩), .agg #[.int .i64 x.kind, .string x.name, .string x.to, .slice x.ba x.bl x.bc, .int .i64 x.at_, .int .i64 x.n, .slice x.ka x.kl x.kc]] w fun e w' => ∃ c, e = .returned (.int .i64 c) ∧ c = (stepR x R).2 ∧ Tk w w' base g P (stepR x R).1 := by
  rw [sr6 hk]
  obtain ⟨W0, hW0⟩ : ∃ W0, W0 = w.alloc (.cells x.cells 35) := ⟨_, rfl⟩
  have bb : Below w.heap.size w W0 := by rw [hW0]; exact box_below _ _
  have BX : Bx W0 w.heap.size x := by rw [hW0]; exact new_at _ _
  have HN := hid (H.later bb)
  have HX := hid (hx.later bb)
  have BB := hid bb
  have hb0 : Hid (base ≤ W0.heap.size) := Nat.le_trans hb bb.size
  have eW : w.alloc (.cells #[.int .i64 x.kind, .string x.name, .string x.to, .slice x.ba x.bl x.bc, .int .i64 x.at_, .int .i64 x.n, .slice x.ka x.kl x.kc] 35) = W0 := by rw [hW0]; rfl
  have c0 : W0.cell? ⟨w.heap.size, 0, none⟩ = some (.int .i64 x.kind) := BX.cell 0
  have c1 : W0.cell? ⟨w.heap.size, 1, none⟩ = some (.string x.name) := BX.cell 1
  have c2 : W0.cell? ⟨w.heap.size, 2, none⟩ = some (.string x.to) := BX.cell 2
  have c3 : W0.cell? ⟨w.heap.size, 3, none⟩ = some (.slice x.ba x.bl x.bc) := BX.cell 3
  have c4 : W0.cell? ⟨w.heap.size, 4, none⟩ = some (.int .i64 x.at_) := BX.cell 4
  have c5 : W0.cell? ⟨w.heap.size, 5, none⟩ = some (.int .i64 x.n) := BX.cell 5
  have c6 : W0.cell? ⟨w.heap.size, 6, none⟩ = some (.slice x.ka x.kl x.kc) := BX.cell 6
  clear hW0 BX
  have HC := hid (rrefuse_any x.at_ x.n W0 HN.out)
  obtain ⟨cc, hcc⟩ : ∃ cc, cc = (rrfs R x.at_ x.n).2 := ⟨_, rfl⟩
  rw [← hcc] at HC ⊢
  replace hcc := hid hcc
  rw [hk] at c0 eW
  rw [hk]
  clear H hx bb
  go_enter Try.func12, Try.ntmps12
  go_wp2_with fail
  refine HC.out.mono ?_
  rintro e w' ⟨rfl, D', F'⟩
  have TT : Hid (Tk w w' base g P (rrfs R x.at_ x.n).1) := ⟨v, P, D', fr_before BB.out F', fun j h => .inl h⟩
  clear D' F'
  go_wp2_with fail
  go_ret
  exact ⟨_, rfl, rfl, TT.out⟩
set_option maxRecDepth 100000 in
set_option maxHeartbeats 2000000 in
theorem done_1 {base g : Nat} {v : Value} {P : Nat → Prop} {R : RS} (x : A) (w : World) (H : RDk w base g v P R) (hok : RS.ok R) (hb : base ≤ w.heap.size) (hrf : R.rf < 4611686018427387904) (hx : x.ok w) (hnm : x.name.size ≤ 9223372036854775807) (hto : x.to.size ≤ 9223372036854775807) (hkp : ∀ y, x.ka = some y → 0 < x.kl → ¬ P y.block) (hk : x.kind = 1) :
    Calls Try.prog 12 #[.pointer (some ⟨g, 0, none⟩), .agg #[.int .i64 x.kind, .string x.name, .string x.to, .slice x.ba x.bl x.bc, .int .i64 x.at_, .int .i64 x.n, .slice x.ka x.kl x.kc]] w fun e w' => ∃ c, e = .returned (.int .i64 c) ∧ c = (stepR x R).2 ∧ Tk w w' base g P (stepR x R).1 := by
  rw [sr1 hk]
  obtain ⟨W0, hW0⟩ : ∃ W0, W0 = w.alloc (.cells x.cells 35) := ⟨_, rfl⟩
  have bb : Below w.heap.size w W0 := by rw [hW0]; exact box_below _ _
  have BX : Bx W0 w.heap.size x := by rw [hW0]; exact new_at _ _
  have HN := hid (H.later bb)
  have HX := hid (hx.later bb)
  have BB := hid bb
  have hb0 : Hid (base ≤ W0.heap.size) := Nat.le_trans hb bb.size
  have eW : w.alloc (.cells #[.int .i64 x.kind, .string x.name, .string x.to, .slice x.ba x.bl x.bc, .int .i64 x.at_, .int .i64 x.n, .slice x.ka x.kl x.kc] 35) = W0 := by rw [hW0]; rfl
  have c0 : W0.cell? ⟨w.heap.size, 0, none⟩ = some (.int .i64 x.kind) := BX.cell 0
  have c1 : W0.cell? ⟨w.heap.size, 1, none⟩ = some (.string x.name) := BX.cell 1
  have c2 : W0.cell? ⟨w.heap.size, 2, none⟩ = some (.string x.to) := BX.cell 2
  have c3 : W0.cell? ⟨w.heap.size, 3, none⟩ = some (.slice x.ba x.bl x.bc) := BX.cell 3
  have c4 : W0.cell? ⟨w.heap.size, 4, none⟩ = some (.int .i64 x.at_) := BX.cell 4
  have c5 : W0.cell? ⟨w.heap.size, 5, none⟩ = some (.int .i64 x.n) := BX.cell 5
  have c6 : W0.cell? ⟨w.heap.size, 6, none⟩ = some (.slice x.ka x.kl x.kc) := BX.cell 6
  clear hW0 BX
  obtain ⟨hbz, hcv⟩ : x.bl ≤ 140737488351232 ∧ Sem.run Try.prog (convert 32 9 (.slice x.ba x.bl x.bc)) W0 = .ok (.string (str x.zs)) W0 := ⟨HX.out.bl, Bytes.conv HX.out.bytes⟩
  have hsz : (str x.zs).size ≤ 140737488351232 := by
    have h1 := bs_len (str x.zs)
    rw [bs_str x.zs HX.out.bytes.2.2.2.1] at h1
    rw [← h1, HX.out.bytes.1]; exact hbz
  have HC := hid (append_any x.name hnm (str x.zs) hsz W0 HN.out hok hb0.out hrf)
  obtain ⟨cc, hcc⟩ : ∃ cc, cc = (rapd R x.name (str x.zs)).2 := ⟨_, rfl⟩
  rw [← hcc] at HC ⊢
  replace hcc := hid hcc
  rw [hk] at c0 eW
  rw [hk]
  clear H hx bb
  go_enter Try.func12, Try.ntmps12
  go_wp2_with fail
  refine HC.out.mono ?_
  rintro e w' ⟨rfl, T'⟩
  have TT := hid (tk_behind BB.out T')
  clear T'
  go_wp2_with fail
  go_ret
  exact ⟨_, rfl, rfl, TT.out⟩
set_option maxRecDepth 100000 in
set_option maxHeartbeats 2000000 in
theorem done_7 {base g : Nat} {v : Value} {P : Nat → Prop} {R : RS} (x : A) (w : World) (H : RDk w base g v P R) (hok : RS.ok R) (hb : base ≤ w.heap.size) (hrf : R.rf < 4611686018427387904) (hx : x.ok w) (hnm : x.name.size ≤ 9223372036854775807) (hto : x.to.size ≤ 9223372036854775807) (hkp : ∀ y, x.ka = some y → 0 < x.kl → ¬ P y.block) (hk : x.kind = 7) :
    Calls Try.prog 12 #[.pointer (some ⟨g, 0, none⟩), .agg #[.int .i64 x.kind, .string x.name, .string x.to, .slice x.ba x.bl x.bc, .int .i64 x.at_, .int .i64 x.n, .slice x.ka x.kl x.kc]] w fun e w' => ∃ c, e = .returned (.int .i64 c) ∧ c = (stepR x R).2 ∧ Tk w w' base g P (stepR x R).1 := by
  rw [sr7 hk]
  obtain ⟨W0, hW0⟩ : ∃ W0, W0 = w.alloc (.cells x.cells 35) := ⟨_, rfl⟩
  have bb : Below w.heap.size w W0 := by rw [hW0]; exact box_below _ _
  have BX : Bx W0 w.heap.size x := by rw [hW0]; exact new_at _ _
  have HN := hid (H.later bb)
  have HX := hid (hx.later bb)
  have BB := hid bb
  have hb0 : Hid (base ≤ W0.heap.size) := Nat.le_trans hb bb.size
  have eW : w.alloc (.cells #[.int .i64 x.kind, .string x.name, .string x.to, .slice x.ba x.bl x.bc, .int .i64 x.at_, .int .i64 x.n, .slice x.ka x.kl x.kc] 35) = W0 := by rw [hW0]; rfl
  have c0 : W0.cell? ⟨w.heap.size, 0, none⟩ = some (.int .i64 x.kind) := BX.cell 0
  have c1 : W0.cell? ⟨w.heap.size, 1, none⟩ = some (.string x.name) := BX.cell 1
  have c2 : W0.cell? ⟨w.heap.size, 2, none⟩ = some (.string x.to) := BX.cell 2
  have c3 : W0.cell? ⟨w.heap.size, 3, none⟩ = some (.slice x.ba x.bl x.bc) := BX.cell 3
  have c4 : W0.cell? ⟨w.heap.size, 4, none⟩ = some (.int .i64 x.at_) := BX.cell 4
  have c5 : W0.cell? ⟨w.heap.size, 5, none⟩ = some (.int .i64 x.n) := BX.cell 5
  have c6 : W0.cell? ⟨w.heap.size, 6, none⟩ = some (.slice x.ka x.kl x.kc) := BX.cell 6
  clear hW0 BX
  have HC := hid (Qh.crash_any x.ka x.kl x.kc x.ks W0 HN.out hok HX.out.ints (by have := HX.out.kl; omega) hkp)
  rw [hk] at c0 eW
  rw [hk]
  clear H hx bb
  go_enter Try.func12, Try.ntmps12
  go_wp2_with fail
  refine HC.out.mono ?_
  rintro e w' ⟨rfl, T'⟩
  have TT := hid (tk_behind BB.out T')
  clear T'
  go_wp2_with fail
  go_ret
  exact ⟨_, rfl, rfl, TT.out⟩
set_option maxRecDepth 100000 in
set_option maxHeartbeats 2000000 in
theorem done_o {base g : Nat} {v : Value} {P : Nat → Prop} {R : RS} (x : A) (w : World) (H : RDk w base g v P R) (hok : RS.ok R) (hb : base ≤ w.heap.size) (hrf : R.rf < 4611686018427387904) (hx : x.ok w) (hnm : x.name.size ≤ 9223372036854775807) (hto : x.to.size ≤ 9223372036854775807) (hkp : ∀ y, x.ka = some y → 0 < x.kl → ¬ P y.block) (hk : x.kind < 0 ∨ 7 < x.kind) :
    Calls Try.prog 12 #[.pointer (some ⟨g, 0, none⟩), .agg #[.int .i64 x.kind, .string x.name, .string x.to, .slice x.ba x.bl x.bc, .int .i64 x.at_, .int .i64 x.n, .slice x.ka x.kl x.kc]] w fun e w' => ∃ c, e = .returned (.int .i64 c) ∧ c = (stepR x R).2 ∧ Tk w w' base g P (stepR x R).1 := by
  rw [sro hk]
  obtain ⟨W0, hW0⟩ : ∃ W0, W0 = w.alloc (.cells x.cells 35) := ⟨_, rfl⟩
  have bb : Below w.heap.size w W0 := by rw [hW0]; exact box_below _ _
  have BX : Bx W0 w.heap.size x := by rw [hW0]; exact new_at _ _
  have HN := hid (H.later bb)
  have HX := hid (hx.later bb)
  have BB := hid bb
  have hb0 : Hid (base ≤ W0.heap.size) := Nat.le_trans hb bb.size
  have eW : w.alloc (.cells #[.int .i64 x.kind, .string x.name, .string x.to, .slice x.ba x.bl x.bc, .int .i64 x.at_, .int .i64 x.n, .slice x.ka x.kl x.kc] 35) = W0 := by rw [hW0]; rfl
  have c0 : W0.cell? ⟨w.heap.size, 0, none⟩ = some (.int .i64 x.kind) := BX.cell 0
  have c1 : W0.cell? ⟨w.heap.size, 1, none⟩ = some (.string x.name) := BX.cell 1
  have c2 : W0.cell? ⟨w.heap.size, 2, none⟩ = some (.string x.to) := BX.cell 2
  have c3 : W0.cell? ⟨w.heap.size, 3, none⟩ = some (.slice x.ba x.bl x.bc) := BX.cell 3
  have c4 : W0.cell? ⟨w.heap.size, 4, none⟩ = some (.int .i64 x.at_) := BX.cell 4
  have c5 : W0.cell? ⟨w.heap.size, 5, none⟩ = some (.int .i64 x.n) := BX.cell 5
  have c6 : W0.cell? ⟨w.heap.size, 6, none⟩ = some (.slice x.ka x.kl x.kc) := BX.cell 6
  clear hW0 BX
  have e0 : (x.kind == 0) = false := by simp; omega
  have e1 : (x.kind == 1) = false := by simp; omega
  have e2 : (x.kind == 2) = false := by simp; omega
  have e3 : (x.kind == 3) = false := by simp; omega
  have e4 : (x.kind == 4) = false := by simp; omega
  have e5 : (x.kind == 5) = false := by simp; omega
  have e6 : (x.kind == 6) = false := by simp; omega
  have e7 : (x.kind == 7) = false := by simp; omega
  have TT := hid (tk_same H bb)
  replace hk := hid hk
  clear H hx bb
  go_enter Try.func12, Try.ntmps12
  go_wp2_with fail
  go_ret
  exact ⟨_, rfl, rfl, TT.out⟩
theorem done_any {base g : Nat} {v : Value} {P : Nat → Prop} {R : RS} (x : A) (w : World) (H : RDk w base g v P R) (hok : RS.ok R) (hb : base ≤ w.heap.size) (hrf : R.rf < 4611686018427387904) (hx : x.ok w) (hnm : x.name.size ≤ 9223372036854775807) (hto : x.to.size ≤ 9223372036854775807) (hkp : ∀ y, x.ka = some y → 0 < x.kl → ¬ P y.block) : Calls Try.prog 12 #[.pointer (some ⟨g, 0, none⟩), x.val] w fun e w' => ∃ c, e = .returned (.int .i64 c) ∧ c = (stepR x R).2 ∧ Tk w w' base g P (stepR x R).1 := by
  by_cases h : x.kind < 0 ∨ 7 < x.kind
  · exact done_o x w H hok hb hrf hx hnm hto hkp h
  · have : x.kind = 0 ∨ x.kind = 1 ∨ x.kind = 2 ∨ x.kind = 3 ∨ x.kind = 4 ∨ x.kind = 5 ∨ x.kind = 6 ∨ x.kind = 7 := by omega
    rcases this with h | h | h | h | h | h | h | h
    · exact done_0 x w H hok hb hrf hx hnm hto hkp h
    · exact done_1 x w H hok hb hrf hx hnm hto hkp h
    · exact done_2 x w H hok hb hrf hx hnm hto hkp h
    · exact done_3 x w H hok hb hrf hx hnm hto hkp h
    · exact done_4 x w H hok hb hrf hx hnm hto hkp h
    · exact done_5 x w H hok hb hrf hx hnm hto hkp h
    · exact done_6 x w H hok hb hrf hx hnm hto hkp h
    · exact done_7 x w H hok hb hrf hx hnm hto hkp h
end Go.Proofs.Ytgffojafdjcdoaa.Ql
