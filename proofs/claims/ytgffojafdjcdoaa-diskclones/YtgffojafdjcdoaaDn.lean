/- does at a disk that is none. -/
import Derived.Test.YtgffojafdjcdoaaNb
import Derived.Test.YtgffojafdjcdoaaAc
namespace Go.Proofs.Ytgffojafdjcdoaa.Dn
open Go.ChangeShapes Go.WideShapes Go.ChangeAt Go.RowKit
open Go.Sort
open Go.Proofs.Ytgffojafdjcdoaa.By
open Go.Proofs.Ytgffojafdjcdoaa.Ln
open Go.Proofs.Ytgffojafdjcdoaa.Nb
open Go.Proofs.Ytgffojafdjcdoaa.Ac
set_option linter.unusedVariables false

theorem info3 : (Try.prog.info? 3).map (fun i => (i.zero, i.size, i.bytes)) = some (some (.int .i64 0), 1, 8) := by kernel_rfl
theorem one_int (xs : List Int) : ∀ u ∈ xs.map (Value.int .i64), u.oneCell' = true := by
  intro u hu
  obtain ⟨x, _, rfl⟩ := List.mem_map.1 hu
  rfl
theorem Bx.new (w : World) (x : A) : Bx (w.alloc (.cells x.cells 35)) w.heap.size x := by
  show (w.heap.push _)[w.heap.size]? = _
  simp
/-- A row of bytes that may be written. -/
def Pad (w : World) (g n : Nat) : Prop := ∀ j, j < n → (∃ y : Int, w.cell? ⟨g, j, none⟩ = some (.int .u8 y)) ∧ w.frozen? ⟨g, j, none⟩ = false
theorem Pad.of {w : World} {base g n cap : Nat} {zs : List Int} (h : Row w base g n cap zs) : Pad w g n := fun j hj => by
  refine ⟨⟨_, h.cell j hj⟩, ?_⟩
  rcases h.2 with ⟨e, _⟩ | ⟨g', cap', cur, e, hb, hg, hr⟩
  · cases e
  · cases e
    simp [World.frozen?, hg]
theorem Pad.less {w : World} {g n m : Nat} (h : Pad w g n) (hm : m ≤ n) : Pad w g m := fun j hj => h j (by omega)
theorem Pad.later {w w' : World} {g n : Nat} (h : Pad w g n) (b : Below w.heap.size w w') : Pad w' g n := fun j hj => by
  obtain ⟨⟨y, hy⟩, hf⟩ := h j hj
  have hl := block_lt_of_cell hy
  refine ⟨⟨y, cell_later b hy⟩, ?_⟩
  have e := b.block g hl
  unfold World.frozen? at hf ⊢
  simpa [e] using hf
theorem Pad.set {w : World} {g n : Nat} (h : Pad w g n) (i : Nat) (y : Int) (hi : i < n) : Pad (w.setCell ⟨g, i, none⟩ (.int .u8 y)) g n := fun j hj => by
  obtain ⟨⟨z, hz⟩, hf⟩ := h j hj
  refine ⟨?_, by simpa using hf⟩
  by_cases e : j = i
  · subst e
    exact ⟨y, by simp [go_sem, hz]⟩
  · exact ⟨z, by rw [← hz]; first | exact World.cell?_setCell_other (by intro e2; injection e2; omega) | exact World.cell?_setCell_other _ (by intro e2; injection e2; omega) | exact World.cell?_setCell_other _ _ _ _ (by intro e2; injection e2; omega) | exact World.cell?_setCell_other w _ (by intro e2; injection e2; omega)⟩
set_option maxRecDepth 10000 in
set_option maxHeartbeats 2000000 in
theorem does_non0 (p : Option Addr) (x : A) (w : World) (H : Non w p) (hx : x.ok w) (hk : x.kind = 0) :
    Calls Try.prog 11 #[.pointer p, .agg #[.int .i64 x.kind, .string x.name, .string x.to, .slice x.ba x.bl x.bc, .int .i64 x.at_, .int .i64 x.n, .slice x.ka x.kl x.kc]] w fun e w' => e = .returned (.int .i64 1) ∧ Below w.heap.size w w' := by
  obtain ⟨W0, hW0⟩ : ∃ W0, W0 = w.alloc (.cells x.cells 35) := ⟨_, rfl⟩
  obtain ⟨gx, hgx⟩ : ∃ gx, gx = w.heap.size := ⟨_, rfl⟩
  have bb : Below w.heap.size w W0 := by rw [hW0]; exact box_below _ _
  have BX : Bx W0 gx x := by rw [hW0, hgx]; exact Bx.new _ _
  have c0 : W0.cell? ⟨gx, 0, none⟩ = some (.int .i64 0) := by rw [BX.cell 0, ← hk]; rfl
  have c1 : W0.cell? ⟨gx, 1, none⟩ = some (.string x.name) := BX.cell 1
  have HN := hid (H.later bb)
  have HX := hid (hx.later bb)
  have BB := hid bb
  have HGX := hid hgx
  have HW := hid hW0
  have HBX := hid BX
  clear H hx bb hgx hW0 BX
  rw [hk]
  go_enter Try.func11, Try.ntmps11
  go_wp2_with fail
  rw [show w.alloc (.cells #[.int .i64 0, .string x.name, .string x.to, .slice x.ba x.bl x.bc, .int .i64 x.at_, .int .i64 x.n, .slice x.ka x.kl x.kc] 35) = W0 from by rw [HW.out, A.cells, hk]]
  refine (create_non p x.name W0 HN.out).mono ?_
  rintro e w' ⟨rfl, b⟩
  have b : Hid (Below w.heap.size w w') := BB.out.trans (b.mono BB.out.size)
  go_wp2_with fail
  go_ret
  exact ⟨rfl, b.out⟩
set_option maxRecDepth 10000 in
set_option maxHeartbeats 2000000 in
theorem does_non2 (p : Option Addr) (x : A) (w : World) (H : Non w p) (hx : x.ok w) (hk : x.kind = 2) :
    Calls Try.prog 11 #[.pointer p, .agg #[.int .i64 x.kind, .string x.name, .string x.to, .slice x.ba x.bl x.bc, .int .i64 x.at_, .int .i64 x.n, .slice x.ka x.kl x.kc]] w fun e w' => e = .returned (.int .i64 1) ∧ Below w.heap.size w w' := by
  obtain ⟨W0, hW0⟩ : ∃ W0, W0 = w.alloc (.cells x.cells 35) := ⟨_, rfl⟩
  obtain ⟨gx, hgx⟩ : ∃ gx, gx = w.heap.size := ⟨_, rfl⟩
  have bb : Below w.heap.size w W0 := by rw [hW0]; exact box_below _ _
  have BX : Bx W0 gx x := by rw [hW0, hgx]; exact Bx.new _ _
  have c0 : W0.cell? ⟨gx, 0, none⟩ = some (.int .i64 2) := by rw [BX.cell 0, ← hk]; rfl
  have c1 : W0.cell? ⟨gx, 1, none⟩ = some (.string x.name) := BX.cell 1
  have HN := hid (H.later bb)
  have HX := hid (hx.later bb)
  have BB := hid bb
  have HGX := hid hgx
  have HW := hid hW0
  have HBX := hid BX
  clear H hx bb hgx hW0 BX
  rw [hk]
  go_enter Try.func11, Try.ntmps11
  go_wp2_with fail
  rw [show w.alloc (.cells #[.int .i64 2, .string x.name, .string x.to, .slice x.ba x.bl x.bc, .int .i64 x.at_, .int .i64 x.n, .slice x.ka x.kl x.kc] 35) = W0 from by rw [HW.out, A.cells, hk]]
  refine (sync_non p x.name W0 HN.out).mono ?_
  rintro e w' ⟨rfl, b⟩
  have b : Hid (Below w.heap.size w w') := BB.out.trans (b.mono BB.out.size)
  go_wp2_with fail
  go_ret
  exact ⟨rfl, b.out⟩
set_option maxRecDepth 10000 in
set_option maxHeartbeats 2000000 in
theorem does_non3 (p : Option Addr) (x : A) (w : World) (H : Non w p) (hx : x.ok w) (hk : x.kind = 3) :
    Calls Try.prog 11 #[.pointer p, .agg #[.int .i64 x.kind, .string x.name, .string x.to, .slice x.ba x.bl x.bc, .int .i64 x.at_, .int .i64 x.n, .slice x.ka x.kl x.kc]] w fun e w' => e = .returned (.int .i64 1) ∧ Below w.heap.size w w' := by
  obtain ⟨W0, hW0⟩ : ∃ W0, W0 = w.alloc (.cells x.cells 35) := ⟨_, rfl⟩
  obtain ⟨gx, hgx⟩ : ∃ gx, gx = w.heap.size := ⟨_, rfl⟩
  have bb : Below w.heap.size w W0 := by rw [hW0]; exact box_below _ _
  have BX : Bx W0 gx x := by rw [hW0, hgx]; exact Bx.new _ _
  have c0 : W0.cell? ⟨gx, 0, none⟩ = some (.int .i64 3) := by rw [BX.cell 0, ← hk]; rfl
  have c1 : W0.cell? ⟨gx, 1, none⟩ = some (.string x.name) := BX.cell 1
  have c2 : W0.cell? ⟨gx, 2, none⟩ = some (.string x.to) := BX.cell 2
  have HN := hid (H.later bb)
  have HX := hid (hx.later bb)
  have BB := hid bb
  have HGX := hid hgx
  have HW := hid hW0
  have HBX := hid BX
  clear H hx bb hgx hW0 BX
  rw [hk]
  go_enter Try.func11, Try.ntmps11
  go_wp2_with fail
  rw [show w.alloc (.cells #[.int .i64 3, .string x.name, .string x.to, .slice x.ba x.bl x.bc, .int .i64 x.at_, .int .i64 x.n, .slice x.ka x.kl x.kc] 35) = W0 from by rw [HW.out, A.cells, hk]]
  refine (rename_non p x.name x.to W0 HN.out).mono ?_
  rintro e w' ⟨rfl, b⟩
  have b : Hid (Below w.heap.size w w') := BB.out.trans (b.mono BB.out.size)
  go_wp2_with fail
  go_ret
  exact ⟨rfl, b.out⟩
set_option maxRecDepth 10000 in
set_option maxHeartbeats 2000000 in
theorem does_non4 (p : Option Addr) (x : A) (w : World) (H : Non w p) (hx : x.ok w) (hk : x.kind = 4) :
    Calls Try.prog 11 #[.pointer p, .agg #[.int .i64 x.kind, .string x.name, .string x.to, .slice x.ba x.bl x.bc, .int .i64 x.at_, .int .i64 x.n, .slice x.ka x.kl x.kc]] w fun e w' => e = .returned (.int .i64 1) ∧ Below w.heap.size w w' := by
  obtain ⟨W0, hW0⟩ : ∃ W0, W0 = w.alloc (.cells x.cells 35) := ⟨_, rfl⟩
  obtain ⟨gx, hgx⟩ : ∃ gx, gx = w.heap.size := ⟨_, rfl⟩
  have bb : Below w.heap.size w W0 := by rw [hW0]; exact box_below _ _
  have BX : Bx W0 gx x := by rw [hW0, hgx]; exact Bx.new _ _
  have c0 : W0.cell? ⟨gx, 0, none⟩ = some (.int .i64 4) := by rw [BX.cell 0, ← hk]; rfl
  have c1 : W0.cell? ⟨gx, 1, none⟩ = some (.string x.name) := BX.cell 1
  have HN := hid (H.later bb)
  have HX := hid (hx.later bb)
  have BB := hid bb
  have HGX := hid hgx
  have HW := hid hW0
  have HBX := hid BX
  clear H hx bb hgx hW0 BX
  rw [hk]
  go_enter Try.func11, Try.ntmps11
  go_wp2_with fail
  rw [show w.alloc (.cells #[.int .i64 4, .string x.name, .string x.to, .slice x.ba x.bl x.bc, .int .i64 x.at_, .int .i64 x.n, .slice x.ka x.kl x.kc] 35) = W0 from by rw [HW.out, A.cells, hk]]
  refine (remove_non p x.name W0 HN.out).mono ?_
  rintro e w' ⟨rfl, b⟩
  have b : Hid (Below w.heap.size w w') := BB.out.trans (b.mono BB.out.size)
  go_wp2_with fail
  go_ret
  exact ⟨rfl, b.out⟩
set_option maxRecDepth 10000 in
set_option maxHeartbeats 2000000 in
theorem does_non5 (p : Option Addr) (x : A) (w : World) (H : Non w p) (hx : x.ok w) (hk : x.kind = 5) :
    Calls Try.prog 11 #[.pointer p, .agg #[.int .i64 x.kind, .string x.name, .string x.to, .slice x.ba x.bl x.bc, .int .i64 x.at_, .int .i64 x.n, .slice x.ka x.kl x.kc]] w fun e w' => e = .returned (.int .i64 1) ∧ Below w.heap.size w w' := by
  obtain ⟨W0, hW0⟩ : ∃ W0, W0 = w.alloc (.cells x.cells 35) := ⟨_, rfl⟩
  obtain ⟨gx, hgx⟩ : ∃ gx, gx = w.heap.size := ⟨_, rfl⟩
  have bb : Below w.heap.size w W0 := by rw [hW0]; exact box_below _ _
  have BX : Bx W0 gx x := by rw [hW0, hgx]; exact Bx.new _ _
  have c0 : W0.cell? ⟨gx, 0, none⟩ = some (.int .i64 5) := by rw [BX.cell 0, ← hk]; rfl
  have c5 : W0.cell? ⟨gx, 5, none⟩ = some (.int .i64 x.n) := BX.cell 5
  have HN := hid (H.later bb)
  have HX := hid (hx.later bb)
  have BB := hid bb
  have HGX := hid hgx
  have HW := hid hW0
  have HBX := hid BX
  clear H hx bb hgx hW0 BX
  rw [hk]
  go_enter Try.func11, Try.ntmps11
  go_wp2_with fail
  rw [show w.alloc (.cells #[.int .i64 5, .string x.name, .string x.to, .slice x.ba x.bl x.bc, .int .i64 x.at_, .int .i64 x.n, .slice x.ka x.kl x.kc] 35) = W0 from by rw [HW.out, A.cells, hk]]
  refine (setquota_non p x.n W0 HN.out).mono ?_
  rintro e w' ⟨rfl, rfl⟩
  go_wp2_with fail
  go_ret
  exact ⟨rfl, BB.out⟩
set_option maxRecDepth 10000 in
set_option maxHeartbeats 2000000 in
theorem does_non6 (p : Option Addr) (x : A) (w : World) (H : Non w p) (hx : x.ok w) (hk : x.kind = 6) :
    Calls Try.prog 11 #[.pointer p, .agg #[.int .i64 x.kind, .string x.name, .string x.to, .slice x.ba x.bl x.bc, .int .i64 x.at_, .int .i64 x.n, .slice x.ka x.kl x.kc]] w fun e w' => e = .returned (.int .i64 1) ∧ Below w.heap.size w w' := by
  obtain ⟨W0, hW0⟩ : ∃ W0, W0 = w.alloc (.cells x.cells 35) := ⟨_, rfl⟩
  obtain ⟨gx, hgx⟩ : ∃ gx, gx = w.heap.size := ⟨_, rfl⟩
  have bb : Below w.heap.size w W0 := by rw [hW0]; exact box_below _ _
  have BX : Bx W0 gx x := by rw [hW0, hgx]; exact Bx.new _ _
  have c0 : W0.cell? ⟨gx, 0, none⟩ = some (.int .i64 6) := by rw [BX.cell 0, ← hk]; rfl
  have c4 : W0.cell? ⟨gx, 4, none⟩ = some (.int .i64 x.at_) := BX.cell 4
  have c5 : W0.cell? ⟨gx, 5, none⟩ = some (.int .i64 x.n) := BX.cell 5
  have HN := hid (H.later bb)
  have HX := hid (hx.later bb)
  have BB := hid bb
  have HGX := hid hgx
  have HW := hid hW0
  have HBX := hid BX
  clear H hx bb hgx hW0 BX
  rw [hk]
  go_enter Try.func11, Try.ntmps11
  go_wp2_with fail
  rw [show w.alloc (.cells #[.int .i64 6, .string x.name, .string x.to, .slice x.ba x.bl x.bc, .int .i64 x.at_, .int .i64 x.n, .slice x.ka x.kl x.kc] 35) = W0 from by rw [HW.out, A.cells, hk]]
  refine (refuse_non p x.at_ x.n W0 HN.out).mono ?_
  rintro e w' ⟨rfl, rfl⟩
  go_wp2_with fail
  go_ret
  exact ⟨rfl, BB.out⟩
end Go.Proofs.Ytgffojafdjcdoaa.Dn
