/- does at a disk, all kinds: what stands behind it. -/
import Derived.Test.YtgffojafdjcdoaaDm
import Derived.Test.YtgffojafdjcdoaaRd
namespace Go.Proofs.Ytgffojafdjcdoaa.Dd
open Go.ChangeShapes Go.WideShapes Go.ChangeAt Go.RowKit
open Go.Sort
open Go.Proofs.Ytgffojafdjcdoaa.By
open Go.Proofs.Ytgffojafdjcdoaa.Ln
open Go.Proofs.Ytgffojafdjcdoaa.Nb (Non)
open Go.Proofs.Ytgffojafdjcdoaa.Ac
open Go.Proofs.Ytgffojafdjcdoaa.Dn
open Go.Proofs.Ytgffojafdjcdoaa.Mp
open Go.Proofs.Ytgffojafdjcdoaa.Dk
open Go.Proofs.Ytgffojafdjcdoaa.Df
open Go.Proofs.Ytgffojafdjcdoaa.Dg
open Go.Proofs.Ytgffojafdjcdoaa.Dh
open Go.Proofs.Ytgffojafdjcdoaa.Di
open Go.Proofs.Ytgffojafdjcdoaa.Ap
open Go.Proofs.Ytgffojafdjcdoaa.Cs
set_option linter.unusedVariables false
set_option linter.unusedSimpArgs false

theorem Fr.low {P : Nat → Prop} {w w' : World} (h : Fr P w w') (n : Nat) (hn : n ≤ w.heap.size) (hP : ∀ j, P j → n ≤ j) : Below n w w' :=
  ⟨h.os, h.tape, h.output, h.size, fun j hj => h.block j (by omega) (fun hp => by have := hP j hp; omega)⟩
/-- A disk behind a step: it is one still, of the same place, and nothing older than it has turned. -/
def Stp (w w' : World) (base g b : Nat) (S : St) : Prop := ∃ (S' : St) (P' : Nat → Prop), Disk w' base g b P' S' ∧ Below base w w' ∧ S'.rf ≤ S.rf + 1
theorem stp_of {w W0 w' : World} {base g b : Nat} {P : Nat → Prop} {S S' : St} (hb : Below w.heap.size w W0) (H : Disk W0 base g b P S) (hw : base ≤ w.heap.size) (D : Disk w' base g b P S') (F : Fr P W0 w') (hr : S'.rf ≤ S.rf + 1) : Stp w w' base g b S :=
  ⟨S', P, D, (hb.mono hw).trans (Fr.low F base (Nat.le_trans hw hb.size) (fun j hj => (H.low j hj).1)), hr⟩
theorem Pad.fr {P : Nat → Prop} {w w' : World} {g n : Nat} (h : Pad w g n) (F : Fr P w w') (hp : ¬ P g) (hg : g < w.heap.size) : Pad w' g n := fun j hj => by
  have e := F.block g hg hp
  obtain ⟨⟨y, hy⟩, hf⟩ := h j hj
  refine ⟨⟨y, ?_⟩, ?_⟩
  · rw [← hy]; unfold World.cell?; rw [e]
  · rw [← hf]; unfold World.frozen?; rw [e]
theorem tr_rf (S : St) (f : Bool) : (tr S f).1.rf ≤ S.rf + 1 := by unfold tr; split <;> simp <;> omega
theorem crt_rf (S : St) (s : ByteArray) : (crt S s).1.rf ≤ S.rf + 1 := by
  have := tr_rf S (full S)
  unfold crt
  split
  · split <;> simpa using this
  · simp; omega
theorem apd_rf (S : St) (s : ByteArray) (zs : List Int) (sl : Value) : (apd S s zs sl).1.rf ≤ S.rf + 1 := by
  have := tr_rf S (big S zs.length)
  unfold apd
  split
  · split <;> simpa using this
  · simp; omega
theorem syn_rf (S : St) (s : ByteArray) : (syn S s).1.rf ≤ S.rf + 1 := by unfold syn; split <;> simp <;> omega
theorem rmv_rf (S : St) (s : ByteArray) : (rmv S s).1.rf ≤ S.rf + 1 := by unfold rmv; split <;> simp <;> omega
theorem rnm_rf (S : St) (s t : ByteArray) : (rnm S s t).1.rf ≤ S.rf + 1 := by
  unfold rnm
  split
  · simp; omega
  · split <;> simp <;> omega
set_option maxRecDepth 10000 in
set_option maxHeartbeats 2000000 in
theorem does_0 {base g b : Nat} {P : Nat → Prop} {S : St} (x : A) (w : World) (H : Disk w base g b P S) (hw : base ≤ w.heap.size) (hrf : S.rf < 4611686018427387904) (hx : x.ok w) (hnm : x.name.size ≤ 9223372036854775807) (hto : x.to.size ≤ 9223372036854775807) (hk : x.kind = 0) :
    Calls Try.prog 11 #[.pointer (some ⟨g, 0, none⟩), .agg #[.int .i64 x.kind, .string x.name, .string x.to, .slice x.ba x.bl x.bc, .int .i64 x.at_, .int .i64 x.n, .slice x.ka x.kl x.kc]] w fun e w' => (∃ c, e = .returned (.int .i64 c)) ∧ Stp w w' base g b S := by
  obtain ⟨W0, hW0⟩ : ∃ W0, W0 = w.alloc (.cells x.cells 35) := ⟨_, rfl⟩
  obtain ⟨gx, hgx⟩ : ∃ gx, gx = w.heap.size := ⟨_, rfl⟩
  have bb : Below w.heap.size w W0 := by rw [hW0]; exact box_below _ _
  have BX : Bx W0 gx x := by rw [hW0, hgx]; exact Bx.new _ _
  have c0 : W0.cell? ⟨gx, 0, none⟩ = some (.int .i64 0) := by rw [BX.cell 0, ← hk]; rfl
  have c1 : W0.cell? ⟨gx, 1, none⟩ = some (.string x.name) := BX.cell 1
  have HN := hid (H.later bb)
  have HX := hid (hx.later bb)
  have BB := hid bb
  have HGX := hid hgx
  have HW := hid hW0
  have HBX := hid BX
  clear H hx bb hgx hW0 BX
  rw [hk]
  go_enter Try.func11, Try.ntmps11
  go_wp2_with fail
  rw [show w.alloc (.cells #[.int .i64 0, .string x.name, .string x.to, .slice x.ba x.bl x.bc, .int .i64 x.at_, .int .i64 x.n, .slice x.ka x.kl x.kc] 35) = W0 from by rw [HW.out, A.cells, hk]]
  refine (create_any x.name hnm W0 HN.out hrf).mono ?_
  rintro e w' ⟨rfl, D', F'⟩
  have HS := hid (stp_of BB.out HN.out hw D' F' (crt_rf _ _))
  clear D' F'
  go_wp2_with fail
  go_ret
  exact ⟨⟨_, rfl⟩, HS.out⟩
set_option maxRecDepth 10000 in
set_option maxHeartbeats 2000000 in
theorem does_2 {base g b : Nat} {P : Nat → Prop} {S : St} (x : A) (w : World) (H : Disk w base g b P S) (hw : base ≤ w.heap.size) (hrf : S.rf < 4611686018427387904) (hx : x.ok w) (hnm : x.name.size ≤ 9223372036854775807) (hto : x.to.size ≤ 9223372036854775807) (hk : x.kind = 2) :
    Calls Try.prog 11 #[.pointer (some ⟨g, 0, none⟩), .agg #[.int .i64 x.kind, .string x.name, .string x.to, .slice x.ba x.bl x.bc, .int .i64 x.at_, .int .i64 x.n, .slice x.ka x.kl x.kc]] w fun e w' => (∃ c, e = .returned (.int .i64 c)) ∧ Stp w w' base g b S := by
  obtain ⟨W0, hW0⟩ : ∃ W0, W0 = w.alloc (.cells x.cells 35) := ⟨_, rfl⟩
  obtain ⟨gx, hgx⟩ : ∃ gx, gx = w.heap.size := ⟨_, rfl⟩
  have bb : Below w.heap.size w W0 := by rw [hW0]; exact box_below _ _
  have BX : Bx W0 gx x := by rw [hW0, hgx]; exact Bx.new _ _
  have c0 : W0.cell? ⟨gx, 0, none⟩ = some (.int .i64 2) := by rw [BX.cell 0, ← hk]; rfl
  have c1 : W0.cell? ⟨gx, 1, none⟩ = some (.string x.name) := BX.cell 1
  have HN := hid (H.later bb)
  have HX := hid (hx.later bb)
  have BB := hid bb
  have HGX := hid hgx
  have HW := hid hW0
  have HBX := hid BX
  clear H hx bb hgx hW0 BX
  rw [hk]
  go_enter Try.func11, Try.ntmps11
  go_wp2_with fail
  rw [show w.alloc (.cells #[.int .i64 2, .string x.name, .string x.to, .slice x.ba x.bl x.bc, .int .i64 x.at_, .int .i64 x.n, .slice x.ka x.kl x.kc] 35) = W0 from by rw [HW.out, A.cells, hk]]
  refine (sync_any x.name hnm W0 HN.out).mono ?_
  rintro e w' ⟨rfl, D', F'⟩
  have HS := hid (stp_of BB.out HN.out hw D' F' (syn_rf _ _))
  clear D' F'
  go_wp2_with fail
  go_ret
  exact ⟨⟨_, rfl⟩, HS.out⟩
set_option maxRecDepth 10000 in
set_option maxHeartbeats 2000000 in
theorem does_3 {base g b : Nat} {P : Nat → Prop} {S : St} (x : A) (w : World) (H : Disk w base g b P S) (hw : base ≤ w.heap.size) (hrf : S.rf < 4611686018427387904) (hx : x.ok w) (hnm : x.name.size ≤ 9223372036854775807) (hto : x.to.size ≤ 9223372036854775807) (hk : x.kind = 3) :
    Calls Try.prog 11 #[.pointer (some ⟨g, 0, none⟩), .agg #[.int .i64 x.kind, .string x.name, .string x.to, .slice x.ba x.bl x.bc, .int .i64 x.at_, .int .i64 x.n, .slice x.ka x.kl x.kc]] w fun e w' => (∃ c, e = .returned (.int .i64 c)) ∧ Stp w w' base g b S := by
  obtain ⟨W0, hW0⟩ : ∃ W0, W0 = w.alloc (.cells x.cells 35) := ⟨_, rfl⟩
  obtain ⟨gx, hgx⟩ : ∃ gx, gx = w.heap.size := ⟨_, rfl⟩
  have bb : Below w.heap.size w W0 := by rw [hW0]; exact box_below _ _
  have BX : Bx W0 gx x := by rw [hW0, hgx]; exact Bx.new _ _
  have c0 : W0.cell? ⟨gx, 0, none⟩ = some (.int .i64 3) := by rw [BX.cell 0, ← hk]; rfl
  have c1 : W0.cell? ⟨gx, 1, none⟩ = some (.string x.name) := BX.cell 1
  have c2 : W0.cell? ⟨gx, 2, none⟩ = some (.string x.to) := BX.cell 2
  have HN := hid (H.later bb)
  have HX := hid (hx.later bb)
  have BB := hid bb
  have HGX := hid hgx
  have HW := hid hW0
  have HBX := hid BX
  clear H hx bb hgx hW0 BX
  rw [hk]
  go_enter Try.func11, Try.ntmps11
  go_wp2_with fail
  rw [show w.alloc (.cells #[.int .i64 3, .string x.name, .string x.to, .slice x.ba x.bl x.bc, .int .i64 x.at_, .int .i64 x.n, .slice x.ka x.kl x.kc] 35) = W0 from by rw [HW.out, A.cells, hk]]
  refine (rename_any x.name hnm x.to hto W0 HN.out).mono ?_
  rintro e w' ⟨rfl, D', F'⟩
  have HS := hid (stp_of BB.out HN.out hw D' F' (rnm_rf _ _ _))
  clear D' F'
  go_wp2_with fail
  go_ret
  exact ⟨⟨_, rfl⟩, HS.out⟩
set_option maxRecDepth 10000 in
set_option maxHeartbeats 2000000 in
theorem does_4 {base g b : Nat} {P : Nat → Prop} {S : St} (x : A) (w : World) (H : Disk w base g b P S) (hw : base ≤ w.heap.size) (hrf : S.rf < 4611686018427387904) (hx : x.ok w) (hnm : x.name.size ≤ 9223372036854775807) (hto : x.to.size ≤ 9223372036854775807) (hk : x.kind = 4) :
    Calls Try.prog 11 #[.pointer (some ⟨g, 0, none⟩), .agg #[.int .i64 x.kind, .string x.name, .string x.to, .slice x.ba x.bl x.bc, .int .i64 x.at_, .int .i64 x.n, .slice x.ka x.kl x.kc]] w fun e w' => (∃ c, e = .returned (.int .i64 c)) ∧ Stp w w' base g b S := by
  obtain ⟨W0, hW0⟩ : ∃ W0, W0 = w.alloc (.cells x.cells 35) := ⟨_, rfl⟩
  obtain ⟨gx, hgx⟩ : ∃ gx, gx = w.heap.size := ⟨_, rfl⟩
  have bb : Below w.heap.size w W0 := by rw [hW0]; exact box_below _ _
  have BX : Bx W0 gx x := by rw [hW0, hgx]; exact Bx.new _ _
  have c0 : W0.cell? ⟨gx, 0, none⟩ = some (.int .i64 4) := by rw [BX.cell 0, ← hk]; rfl
  have c1 : W0.cell? ⟨gx, 1, none⟩ = some (.string x.name) := BX.cell 1
  have HN := hid (H.later bb)
  have HX := hid (hx.later bb)
  have BB := hid bb
  have HGX := hid hgx
  have HW := hid hW0
  have HBX := hid BX
  clear H hx bb hgx hW0 BX
  rw [hk]
  go_enter Try.func11, Try.ntmps11
  go_wp2_with fail
  rw [show w.alloc (.cells #[.int .i64 4, .string x.name, .string x.to, .slice x.ba x.bl x.bc, .int .i64 x.at_, .int .i64 x.n, .slice x.ka x.kl x.kc] 35) = W0 from by rw [HW.out, A.cells, hk]]
  refine (remove_any x.name hnm W0 HN.out).mono ?_
  rintro e w' ⟨rfl, D', F'⟩
  have HS := hid (stp_of BB.out HN.out hw D' F' (rmv_rf _ _))
  clear D' F'
  go_wp2_with fail
  go_ret
  exact ⟨⟨_, rfl⟩, HS.out⟩
set_option maxRecDepth 10000 in
set_option maxHeartbeats 2000000 in
theorem does_5 {base g b : Nat} {P : Nat → Prop} {S : St} (x : A) (w : World) (H : Disk w base g b P S) (hw : base ≤ w.heap.size) (hrf : S.rf < 4611686018427387904) (hx : x.ok w) (hnm : x.name.size ≤ 9223372036854775807) (hto : x.to.size ≤ 9223372036854775807) (hk : x.kind = 5) :
    Calls Try.prog 11 #[.pointer (some ⟨g, 0, none⟩), .agg #[.int .i64 x.kind, .string x.name, .string x.to, .slice x.ba x.bl x.bc, .int .i64 x.at_, .int .i64 x.n, .slice x.ka x.kl x.kc]] w fun e w' => (∃ c, e = .returned (.int .i64 c)) ∧ Stp w w' base g b S := by
  obtain ⟨W0, hW0⟩ : ∃ W0, W0 = w.alloc (.cells x.cells 35) := ⟨_, rfl⟩
  obtain ⟨gx, hgx⟩ : ∃ gx, gx = w.heap.size := ⟨_, rfl⟩
  have bb : Below w.heap.size w W0 := by rw [hW0]; exact box_below _ _
  have BX : Bx W0 gx x := by rw [hW0, hgx]; exact Bx.new _ _
  have c0 : W0.cell? ⟨gx, 0, none⟩ = some (.int .i64 5) := by rw [BX.cell 0, ← hk]; rfl
  have c5 : W0.cell? ⟨gx, 5, none⟩ = some (.int .i64 x.n) := BX.cell 5
  have HN := hid (H.later bb)
  have HX := hid (hx.later bb)
  have BB := hid bb
  have HGX := hid hgx
  have HW := hid hW0
  have HBX := hid BX
  clear H hx bb hgx hW0 BX
  rw [hk]
  go_enter Try.func11, Try.ntmps11
  go_wp2_with fail
  rw [show w.alloc (.cells #[.int .i64 5, .string x.name, .string x.to, .slice x.ba x.bl x.bc, .int .i64 x.at_, .int .i64 x.n, .slice x.ka x.kl x.kc] 35) = W0 from by rw [HW.out, A.cells, hk]]
  refine (setquota_any x.n W0 HN.out).mono ?_
  rintro e w' ⟨rfl, D', F'⟩
  have HS := hid (stp_of BB.out HN.out hw D' F' (by split <;> first | omega | (show S.rf ≤ S.rf + 1; omega)))
  clear D' F'
  generalize (if isQ x.n = true then (0 : Int) else 2) = cc
  go_wp2_with fail
  go_ret
  exact ⟨⟨_, rfl⟩, HS.out⟩
set_option maxRecDepth 10000 in
set_option maxHeartbeats 2000000 in
theorem does_6 {base g b : Nat} {P : Nat → Prop} {S : St} (x : A) (w : World) (H : Disk w base g b P S) (hw : base ≤ w.heap.size) (hrf : S.rf < 4611686018427387904) (hx : x.ok w) (hnm : x.name.size ≤ 9223372036854775807) (hto : x.to.size ≤ 9223372036854775807) (hk : x.kind = 6) :
    Calls Try.prog 11 #[.pointer (some ⟨g, 0, none⟩), .agg #[.int .i64 x.kind, .string x.name, .string x.to, .slice x.ba x.bl x.bc, .int .i64 x.at_, .int .i64 x.n, .slice x.ka x.kl x.kc]] w fun e w' => (∃ c, e = .returned (.int .i64 c)) ∧ Stp w w' base g b S := by
  obtain ⟨W0, hW0⟩ : ∃ W0, W0 = w.alloc (.cells x.cells 35) := ⟨_, rfl⟩
  obtain ⟨gx, hgx⟩ : ∃ gx, gx = w.heap.size := ⟨_, rfl⟩
  have bb : Below w.heap.size w W0 := by rw [hW0]; exact box_below _ _
  have BX : Bx W0 gx x := by rw [hW0, hgx]; exact Bx.new _ _
  have c0 : W0.cell? ⟨gx, 0, none⟩ = some (.int .i64 6) := by rw [BX.cell 0, ← hk]; rfl
  have c4 : W0.cell? ⟨gx, 4, none⟩ = some (.int .i64 x.at_) := BX.cell 4
  have c5 : W0.cell? ⟨gx, 5, none⟩ = some (.int .i64 x.n) := BX.cell 5
  have HN := hid (H.later bb)
  have HX := hid (hx.later bb)
  have BB := hid bb
  have HGX := hid hgx
  have HW := hid hW0
  have HBX := hid BX
  clear H hx bb hgx hW0 BX
  rw [hk]
  go_enter Try.func11, Try.ntmps11
  go_wp2_with fail
  rw [show w.alloc (.cells #[.int .i64 6, .string x.name, .string x.to, .slice x.ba x.bl x.bc, .int .i64 x.at_, .int .i64 x.n, .slice x.ka x.kl x.kc] 35) = W0 from by rw [HW.out, A.cells, hk]]
  refine (refuse_any x.at_ x.n HX.out.at_ HX.out.n W0 HN.out).mono ?_
  rintro e w' ⟨rfl, D', F'⟩
  have HS := hid (stp_of BB.out HN.out hw D' F' (by split <;> first | omega | (show S.rf ≤ S.rf + 1; omega)))
  clear D' F'
  generalize (if 0 ≤ x.at_ ∧ 0 ≤ x.n then (0 : Int) else 2) = cc
  go_wp2_with fail
  go_ret
  exact ⟨⟨_, rfl⟩, HS.out⟩
set_option maxRecDepth 10000 in
set_option maxHeartbeats 2000000 in
theorem does_7 {base g b : Nat} {P : Nat → Prop} {S : St} (x : A) (w : World) (H : Disk w base g b P S) (hw : base ≤ w.heap.size) (hrf : S.rf < 4611686018427387904) (hx : x.ok w) (hnm : x.name.size ≤ 9223372036854775807) (hto : x.to.size ≤ 9223372036854775807) (hk : x.kind = 7) :
    Calls Try.prog 11 #[.pointer (some ⟨g, 0, none⟩), .agg #[.int .i64 x.kind, .string x.name, .string x.to, .slice x.ba x.bl x.bc, .int .i64 x.at_, .int .i64 x.n, .slice x.ka x.kl x.kc]] w fun e w' => (∃ c, e = .returned (.int .i64 c)) ∧ Stp w w' base g b S := by
  obtain ⟨W0, hW0⟩ : ∃ W0, W0 = w.alloc (.cells x.cells 35) := ⟨_, rfl⟩
  obtain ⟨gx, hgx⟩ : ∃ gx, gx = w.heap.size := ⟨_, rfl⟩
  have bb : Below w.heap.size w W0 := by rw [hW0]; exact box_below _ _
  have BX : Bx W0 gx x := by rw [hW0, hgx]; exact Bx.new _ _
  have c0 : W0.cell? ⟨gx, 0, none⟩ = some (.int .i64 7) := by rw [BX.cell 0, ← hk]; rfl
  have c6 : W0.cell? ⟨gx, 6, none⟩ = some (.slice x.ka x.kl x.kc) := BX.cell 6
  have HN := hid (H.later bb)
  have HX := hid (hx.later bb)
  have BB := hid bb
  have HGX := hid hgx
  have HW := hid hW0
  have HBX := hid BX
  clear H hx bb hgx BX
  rw [hk]
  obtain ⟨i0, hi, hz0, hz1, hz2⟩ := info_parts info3
  have own0 : (W0.alloc (.cells #[] 3)).ownsRow W0.heap.size 3 1 (.slice (some ⟨W0.heap.size, 0, none⟩) 0 0) 0 [] := World.ownsRow_made W0 #[] 0 (Nat.le_refl _) (by unfold maxLen; omega) rfl
  have b0 : Below W0.heap.size W0 (W0.alloc (.cells #[] 3)) := box_below _ _
  have d6 := cell_later b0 c6
  have hw0 := BB.out.size
  have HI := hid (ints_later HX.out.ints b0)
  have hkl := hid HX.out.kl
  have BA : Hid (Below w.heap.size w (W0.alloc (.cells #[] 3))) := BB.out.trans (b0.mono BB.out.size)
  have HNA := hid (HN.out.later b0)
  have HWW : Hid (w.alloc (.cells #[.int .i64 7, .string x.name, .string x.to, .slice x.ba x.bl x.bc, .int .i64 x.at_, .int .i64 x.n, .slice x.ka x.kl x.kc] 35) = W0) := by show _ = _; rw [hW0, A.cells, hk]
  clear HX HBX b0 HW hW0
  generalize hka : x.ka = ka at *
  generalize hkl2 : x.kl = kl at *
  generalize hkc : x.kc = kc at *
  go_enter Try.func11, Try.ntmps11
  go_upto_region 1 with (fail)
  rw [HWW.out, ← HGX.out]
  clear HGX HWW
  cases ka with
  | none =>
    obtain ⟨rfl, rfl⟩ := HI.out.2.2.1 rfl
    go_wp2_with (at_builtin; refine wpList_append_own_none rfl _ _ 33 rfl _ 3 i0 1 Try.underlying33 hi _ _ _ rfl own0 rfl ?_)
    refine (crash_any (some ⟨W0.heap.size, 0, none⟩) 0 0 [] _ HNA.out ⟨rfl, Nat.le_refl _, fun e => by simp at e, by simp, fun x hx i hi => by omega⟩ (by omega) (fun x hx h => by omega)).mono ?_
    rintro e w' ⟨rfl, D', F'⟩
    have HS := hid (stp_of BA.out HNA.out hw D' F' (by simp [crs]; omega))
    clear D' F'
    go_wp2_with fail
    go_ret
    exact ⟨⟨_, rfl⟩, HS.out⟩
  | some ad =>
    have BL : ∀ j u, (x.ks.map (Value.int .i64))[j]? = some u → (W0.alloc (.cells #[] 3)).cell? (ad.add j) = some u := by
      intro j u hu
      rw [List.getElem?_map] at hu
      cases hj : x.ks[j]? with
      | none => rw [hj] at hu; simp at hu
      | some y =>
        rw [hj] at hu
        simp at hu
        have hlt : j < x.ks.length := (List.getElem?_eq_some_iff.1 hj).1
        have := HI.out.2.2.2.2 ad rfl j (by rw [← HI.out.1]; exact hlt)
        rw [List.getD_eq_getElem?_getD, hj] at this
        rw [← hu]
        exact this
    have hlen : (x.ks.map (Value.int .i64)).length = kl * 1 := by simp; exact HI.out.1
    have hkl' := hkl.out
    go_wp2_with (at_builtin; refine wpList_append_own _ rfl _ _ 33 rfl _ 3 i0 (.int .i64 0) 1 8 Try.underlying33 hi hz0 hz1 hz2 rfl (by decide) _ _ _ rfl own0 ad kl kc (x.ks.map (Value.int .i64)) rfl hlen BL (one_int _) ?c3 ?c4 ?c5 ?_)
    case c3 => unfold maxLen; omega
    case c4 => omega
    case c5 => simp
    intro v1 w1 own1 g1 hnil1
    have B1 := hid (BA.out.grown g1 BA.out.size (by intro k hk; simp [Value.ownBlock] at hk; omega))
    have HN1 := hid (HN.out.later ((box_below W0 (.cells #[] 3)).grown g1 (box_below W0 (.cells #[] 3)).size (by intro k hk; simp [Value.ownBlock] at hk; omega)))
    obtain ⟨gv, cv, hv1⟩ : ∃ gv cv, v1 = .slice (some ⟨gv, 0, none⟩) kl cv := by
      rcases own1.2 with ⟨h, _⟩ | ⟨gv, cv, _, h, _⟩
      · exact absurd h hnil1
      · exact ⟨gv, cv, by simpa using h⟩
    subst hv1
    have hgv := World.ownsRow.lt own1 gv rfl
    have HK1 : Ints w1 (some ⟨gv, 0, none⟩) kl cv x.ks := by
      refine ⟨HI.out.1, ?_, fun e => by simp at e, HI.out.2.2.2.1, ?_⟩
      · rcases own1.2 with ⟨h, _⟩ | ⟨g', c', cur, h, _, _, hn, _⟩
        · simp at h
        · simp at h; omega
      · intro y hy i hi
        simp at hy
        subst hy
        have hl1 := HI.out.1
        have hc := World.ownsRow.cellAt own1 i (by omega)
        rw [addr_add, Nat.zero_add, hc]
        simp [List.getElem?_map, List.getD_eq_getElem?_getD, List.getElem?_eq_getElem (show i < x.ks.length by omega)]
    have hPw := hid HN.out.plow
    clear hnil1 own0 BL
    replace HK1 := hid HK1
    replace own1 := hid own1
    replace g1 := hid g1
    go_wp2_with fail
    refine (crash_any (some ⟨gv, 0, none⟩) kl cv x.ks w1 HN1.out HK1.out (by omega) (fun y hy h => by simp at hy; subst hy; intro hp; have := hPw.out gv hp; omega)).mono ?_
    rintro e w' ⟨rfl, D', F'⟩
    have HS := hid (stp_of B1.out HN1.out hw D' F' (by simp [crs]; omega))
    clear D' F'
    go_wp2_with fail
    go_ret
    exact ⟨⟨_, rfl⟩, HS.out⟩
set_option maxRecDepth 10000 in
set_option maxHeartbeats 2000000 in
theorem does_1 {base g b : Nat} {P : Nat → Prop} {S : St} (x : A) (w : World) (H : Disk w base g b P S) (hw : base ≤ w.heap.size) (hrf : S.rf < 4611686018427387904) (hx : x.ok w) (hnm : x.name.size ≤ 9223372036854775807) (hto : x.to.size ≤ 9223372036854775807) (hk : x.kind = 1) :
    Calls Try.prog 11 #[.pointer (some ⟨g, 0, none⟩), .agg #[.int .i64 x.kind, .string x.name, .string x.to, .slice x.ba x.bl x.bc, .int .i64 x.at_, .int .i64 x.n, .slice x.ka x.kl x.kc]] w fun e w' => (∃ c, e = .returned (.int .i64 c)) ∧ Stp w w' base g b S := by
  obtain ⟨W0, hW0⟩ : ∃ W0, W0 = w.alloc (.cells x.cells 35) := ⟨_, rfl⟩
  obtain ⟨gx, hgx⟩ : ∃ gx, gx = w.heap.size := ⟨_, rfl⟩
  have bb : Below w.heap.size w W0 := by rw [hW0]; exact box_below _ _
  have BX : Bx W0 gx x := by rw [hW0, hgx]; exact Bx.new _ _
  have c0 : W0.cell? ⟨gx, 0, none⟩ = some (.int .i64 1) := by rw [BX.cell 0, ← hk]; rfl
  have c1 : W0.cell? ⟨gx, 1, none⟩ = some (.string x.name) := BX.cell 1
  have c3 : W0.cell? ⟨gx, 3, none⟩ = some (.slice x.ba x.bl x.bc) := BX.cell 3
  have HN := hid (H.later bb)
  have HX := hid (hx.later bb)
  have BB := hid bb
  have HGX := hid hgx
  have HW := hid hW0
  have HBX := hid BX
  clear H hx bb hgx BX
  rw [hk]
  have hw0 := BB.out.size
  have hbl := hid HX.out.bl
  have HL := hid (lent_any x.ba x.bl x.bc x.zs W0 HX.out.bytes (by have := hbl.out; omega))
  have HWW : Hid (w.alloc (.cells #[.int .i64 1, .string x.name, .string x.to, .slice x.ba x.bl x.bc, .int .i64 x.at_, .int .i64 x.n, .slice x.ka x.kl x.kc] 35) = W0) := by show _ = _; rw [hW0, A.cells, hk]
  have HXb := hid HX.out.bytes.2.2.2.1
  clear HX HBX HW hW0
  go_enter Try.func11, Try.ntmps11
  go_upto_region 1 with (fail)
  rw [HWW.out, ← HGX.out]
  clear HGX HWW
  go_wp2_with fail
  refine HL.out.mono ?_
  rintro e w1 ⟨gl, c, rfl, R1, b1⟩
  have HBx := lent_bytes R1 HXb.out
  have hgl1 := hid R1.lt.2
  have d1 := cell_later b1 c1
  have hg1 := hid R1.lt.1
  have P1 := hid ((Pad.of R1).less (Nat.le_add_right x.bl 1))
  have HN1 := hid (HN.out.later b1)
  have B1 : Hid (Below w.heap.size w w1) := BB.out.trans (b1.mono BB.out.size)
  have BBz : Hid (base ≤ W0.heap.size) := Nat.le_trans hw hw0
  have HPl := hid HN.out.plow
  have hbc : Hid (x.bl ≤ c) := by
    rcases R1.2 with ⟨e, _⟩ | ⟨g', cap', cur, e, _, _, hn, _⟩
    · simp at e
    · simp at e; show _ ≤ _; omega
  clear R1 b1 HL BB HN c0 c1 c3
  have HBy := hid HBx
  have hPw := hid HN1.out.plow
  go_wp2_with fail
  refine (append_any x.name hnm (some ⟨gl, 0, none⟩) x.bl c x.zs w1 HN1.out hrf HBy.out hbl.out (fun y hy h => by simp at hy; subst hy; intro hp; have := HPl.out gl hp; have := hg1.out; omega)).mono ?_
  rintro e w2 ⟨rfl, sl, P', D2, F2, hP1, hP2⟩
  have P2 : Hid (Pad w2 gl x.bl) := Dd.Pad.fr P1.out F2 (fun hp => by have := HPl.out gl hp; have := hg1.out; omega) hgl1.out
  have hgP : Hid (¬ P' gl) := fun hp => by
    rcases hP1 gl hp with h | h
    · have := HPl.out gl h; have := hg1.out; omega
    · have := hgl1.out; omega
  have B2 : Hid (Below base w w2) := (B1.out.mono hw).trans (Fr.low F2 base (by have := B1.out.size; omega) (fun j hj => (HN1.out.low j hj).1))
  have hgb : Hid (base ≤ gl) := by show _ ≤ _; have := hg1.out; have := BBz.out; omega
  have hrr := apd_rf S x.name x.zs sl
  obtain ⟨S2, hS2⟩ : ∃ S2, S2 = (apd S x.name x.zs sl).1 := ⟨_, rfl⟩
  have D2' : Disk w2 base g b P' S2 := by rw [hS2]; exact D2
  rw [← hS2] at hrr
  clear hS2 D2
  generalize (apd S x.name x.zs (.bool true)).2 = ec
  clear F2 hP1 hP2 B1 P1 HN1 d1
  have D2 := hid D2'
  clear D2'
  have hbl := hbl.out
  have hbc := hbc.out
  go_wp2_with fail
  go_loopw [7] (fun i wr => ∃ kk : Nat, i = .int .i64 kk ∧ kk ≤ x.bl ∧ Hid (Below base w wr) ∧ Hid (Pad wr gl x.bl) ∧ Hid (Disk wr base g b P' S2)) (fun i _ => x.bl - (intOf i).toNat)
  case atStart => exact ⟨0, rfl, by omega, B2, P2, D2⟩
  case round =>
    obtain ⟨kk, rfl, hk, hbel, hpd, hdd⟩ := hrel
    by_cases hlt : kk < x.bl
    · obtain ⟨⟨y, hy⟩, hfz⟩ := hpd.out kk hlt
      have ik0 : (kk : Int) < (x.bl : Int) := by omega
      have HPadS : Hid (∀ y', Pad (wr.setCell ⟨gl, kk, none⟩ (.int .u8 y')) gl x.bl) := fun y' => hpd.out.set kk y' hlt
      have HBelS : Hid (∀ y', Below base w (wr.setCell ⟨gl, kk, none⟩ y')) := fun y' => hbel.out.setCell (p := ⟨gl, kk, none⟩) hgb.out _
      have HDS : Hid (∀ y', Disk (wr.setCell ⟨gl, kk, none⟩ y') base g b P' S2) := fun y' => hdd.out.kept ((Kp.refl P' wr none).set (.inl hgP.out) kk y') (fun _ h => h) (fun j hj => by have := hdd.out.low j hj; simpa using this)
      clear hpd hbel hdd
      go_wp2_with fail
      go_roundw
      case rel => exact ⟨kk + 1, by go_num, by omega, HBelS.out _, HPadS.out _, HDS.out _⟩
      case measure => simp [intOf]; omega
    · have nlt : ¬ (kk : Int) < (x.bl : Int) := by omega
      go_wp2_with fail
      go_ret
      exact ⟨⟨_, rfl⟩, S2, P', hdd.out, hbel.out, hrr⟩
set_option maxRecDepth 10000 in
set_option maxHeartbeats 2000000 in
theorem does_o {base g b : Nat} {P : Nat → Prop} {S : St} (x : A) (w : World) (H : Disk w base g b P S) (hw : base ≤ w.heap.size) (hrf : S.rf < 4611686018427387904) (hx : x.ok w) (hnm : x.name.size ≤ 9223372036854775807) (hto : x.to.size ≤ 9223372036854775807) (hk : x.kind < 0 ∨ 7 < x.kind) :
    Calls Try.prog 11 #[.pointer (some ⟨g, 0, none⟩), .agg #[.int .i64 x.kind, .string x.name, .string x.to, .slice x.ba x.bl x.bc, .int .i64 x.at_, .int .i64 x.n, .slice x.ka x.kl x.kc]] w fun e w' => (∃ c, e = .returned (.int .i64 c)) ∧ Stp w w' base g b S := by
  obtain ⟨W0, hW0⟩ : ∃ W0, W0 = w.alloc (.cells x.cells 35) := ⟨_, rfl⟩
  have bb : Below w.heap.size w W0 := by rw [hW0]; exact box_below _ _
  have HS : Hid (Stp w W0 base g b S) := ⟨S, P, H.later bb, bb.mono hw, by omega⟩
  have e0 : (x.kind == 0) = false := by simp; omega
  have e1 : (x.kind == 1) = false := by simp; omega
  have e2 : (x.kind == 2) = false := by simp; omega
  have e3 : (x.kind == 3) = false := by simp; omega
  have e4 : (x.kind == 4) = false := by simp; omega
  have e5 : (x.kind == 5) = false := by simp; omega
  have e6 : (x.kind == 6) = false := by simp; omega
  have e7 : (x.kind == 7) = false := by simp; omega
  have BX : Bx W0 w.heap.size x := by rw [hW0]; exact Bx.new _ _
  have c0 : W0.cell? ⟨w.heap.size, 0, none⟩ = some (.int .i64 x.kind) := BX.cell 0
  rw [hW0, A.cells] at c0
  rw [hW0, A.cells] at HS
  clear H hx hk BX bb hW0
  go_enter Try.func11, Try.ntmps11
  go_wp2_with fail
  go_ret
  exact ⟨⟨_, rfl⟩, HS.out⟩
theorem does_any {base g b : Nat} {P : Nat → Prop} {S : St} (x : A) (w : World) (H : Disk w base g b P S) (hw : base ≤ w.heap.size) (hrf : S.rf < 4611686018427387904) (hx : x.ok w) (hnm : x.name.size ≤ 9223372036854775807) (hto : x.to.size ≤ 9223372036854775807) :
    Calls Try.prog 11 #[.pointer (some ⟨g, 0, none⟩), x.val] w fun e w' => (∃ c, e = .returned (.int .i64 c)) ∧ Stp w w' base g b S := by
  by_cases h : x.kind < 0 ∨ 7 < x.kind
  · exact does_o x w H hw hrf hx hnm hto h
  · have : x.kind = 0 ∨ x.kind = 1 ∨ x.kind = 2 ∨ x.kind = 3 ∨ x.kind = 4 ∨ x.kind = 5 ∨ x.kind = 6 ∨ x.kind = 7 := by omega
    rcases this with h | h | h | h | h | h | h | h
    · exact does_0 x w H hw hrf hx hnm hto h
    · exact does_1 x w H hw hrf hx hnm hto h
    · exact does_2 x w H hw hrf hx hnm hto h
    · exact does_3 x w H hw hrf hx hnm hto h
    · exact does_4 x w H hw hrf hx hnm hto h
    · exact does_5 x w H hw hrf hx hnm hto h
    · exact does_6 x w H hw hrf hx hnm hto h
    · exact does_7 x w H hw hrf hx hnm hto h
end Go.Proofs.Ytgffojafdjcdoaa.Dd
