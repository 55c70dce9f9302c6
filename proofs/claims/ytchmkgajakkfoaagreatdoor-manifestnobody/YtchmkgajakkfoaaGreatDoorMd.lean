/- A new disk, and its List. -/
import Derived.Test.YtchmkgajakkfoaaGreatDoorMs
import Derived.Maps.RangeWalk
import Derived.Maps.OwnSet
namespace Go.Proofs.YtchmkgajakkfoaaGreatDoor.Md
open Go.ChangeShapes Go.WideShapes Go.ChangeAt Go.RowKit Go.Maps
open Go.Proofs.YtchmkgajakkfoaaGreatDoor.Gr
open Go.Proofs.YtchmkgajakkfoaaGreatDoor.Mn
open Go.Proofs.YtchmkgajakkfoaaGreatDoor.Ms
set_option linter.unusedVariables false
set_option linter.unusedSimpArgs false

def heldR (v : Value) : Option (DataW Value × List MemPlace) := some (.held v, [])
theorem law9 : Keyed Tryz.prog 9 := string_keyed Tryz.underlying9
theorem mk_run (w : World) : Sem.run Tryz.prog (Instr.makeMap 150 none) w = .ok (.map (some w.heap.size)) (w.alloc (.map #[] 0)) := by
  kernel_rfl
theorem isquota_any (w : World) : Calls Tryz.prog 64 #[.int .i64 1000] w fun e w' => e = .returned (.bool true) ∧ w' = w := by
  go_enter Tryz.func64, Tryz.ntmps64
  go_wp2_with fail
  go_ret
  simp
theorem map_of_block {w w' : World} {b n : Nat} {D : DataW Value} (h : w.ownsMap Tryz.prog 9 heldR b n D) (hb : w'.heap[b]? = w.heap[b]?) : w'.ownsMap Tryz.prog 9 heldR b n D := by
  obtain ⟨es, clock, h1, h2⟩ := h
  exact ⟨es, clock, hb.trans h1, h2⟩
/-- A disk without files. -/
structure Nd (w : World) (g b : Nat) : Prop where
  o : w.cell? ⟨g, 0, none⟩ = some (.map (some b))
  m : w.ownsMap Tryz.prog 9 heldR b 0 (.map [])
theorem Nd.later {w w' : World} {g b : Nat} (h : Nd w g b) (l : Below w.heap.size w w') : Nd w' g b :=
  ⟨(l.cell (block_lt_of_cell h.o)).trans h.o, map_of_block h.m (l.block b h.m.lt)⟩
theorem new_any (w : World) : Calls Tryz.prog 23 #[.int .i64 1000] w fun e w' => ∃ g b, e = .returned (.tuple #[.pointer (some ⟨g, 0, none⟩), .int .i64 0]) ∧ Nd w' g b ∧ Below w.heap.size w w' := by
  have c1 := hid (isquota_any w)
  have r1 := mk_run w
  go_enter Tryz.func23, Tryz.ntmps23
  go_wp2_with (first | (go_at_call 64; refine c1.out.mono ?_; rintro e w1 ⟨rfl, hw1⟩; subst hw1))
  refine bodyPost_ret (v := .tuple #[.pointer (some ⟨w1.heap.size + 1, 0, none⟩), .int .i64 0]) (by simp [results, Tryz.results23, go_sem]) rfl ⟨w1.heap.size + 1, w1.heap.size, rfl, ⟨?_, ?_⟩, Below.up (box_below _ _) (box_below _ _)⟩
  · have h := new_at (w1.alloc (.map #[] 0)) (.cells #[.map (some w1.heap.size), .int .i64 1000, .int .i64 0, .int .i64 0, .int .i64 0] 154)
    rw [size_alloc] at h
    exact cell_of h 0 _ rfl
  · exact (World.ownsMap_made w1 _ _ _).alloc _
theorem isdisk_any {w : World} {g b : Nat} (H : Nd w g b) : Calls Tryz.prog 65 #[.pointer (some ⟨g, 0, none⟩)] w fun e w' => e = .returned (.bool false) ∧ w' = w := by
  have c0 := H.o
  have hE : Sem.run Tryz.prog (binOp .eql 150 (.map (some b)) (.map none)) w = .ok (.bool false) w := by kernel_rfl
  clear H
  go_enter Tryz.func65, Tryz.ntmps65
  go_wp2
  go_ret
  exact ⟨rfl, rfl⟩
theorem run_len {w : World} {g b : Nat} (H : Nd w g b) (ty : TypeId) : (Builtin.len_ #[150] ty #[.map (some b)]).run Tryz.prog w = .ok (.int .i64 ((0 : Nat) : Int)) w := by
  rw [H.m.len Tryz.underlying150]
  rfl
theorem info9 : (Tryz.prog.info? 9).map (fun i => (i.zero, i.size, i.bytes)) = some (some (.string ⟨#[]⟩), 1, 16) := by kernel_rfl
set_option maxHeartbeats 1000000 in
theorem list_any {w : World} {g b : Nat} (H : Nd w g b) : Calls Tryz.prog 24 #[.pointer (some ⟨g, 0, none⟩)] w fun e w' => ∃ a c, e = .returned (.slice a 0 c) ∧ Below w.heap.size w w' := by
  obtain ⟨i0, hi, hz0, hz1, hz2⟩ := info_parts info9
  have hown := H.m
  have HH := hid H
  have c0 := H.o
  have hgl := block_lt_of_cell c0
  have hLn := fun ty => run_len H ty
  clear H
  go_enter Tryz.func24, Tryz.ntmps24
  go_wp2_with fail
  refine (isdisk_any HH.out).mono ?_
  rintro e w00 ⟨rfl, hww⟩
  subst hww
  go_wp2_with (first
    | (at_make; refine wpList_make_own _ rfl _ _ 78 rfl w00.heap.size 9 i0 (.string ⟨#[]⟩) 1 Tryz.underlying78 hi hz0 hz1 _ _ _ 0 rfl rfl rfl (by rw [hz2]; omega) (by unfold maxLen; omega) (Nat.le_refl _) ?_; intro w1 hrow1 hg1; have c1 : w1.cell? ⟨g, 0, none⟩ = some (.map (some b)) := (World.cell?_of_block (a := ⟨g, 0, none⟩) (hg1.block g hgl (by simp))).trans c0)
    | (at_range; refine wpList_range_own _ rfl _ 150 rfl 9 157 law9 Tryz.underlying150 _ b _ _ rfl (hown.kept hg1 (by simp)) ?_; intro w0 hrg0 hg0 hs0))
  go_frame
  have hb0 : Below w00.heap.size w00 w1 := (Below.refl _ _).grown hg1 (Nat.le_refl _) (fun j hj => by cases hj)
  have hb1 : Below w00.heap.size w00 w0 := hb0.grown hg0 hg1.size (fun j hj => by cases hj)
  go_loopw [3] (fun v wr => ∃ (left : Lit → Bool) (cnt : Nat) (a : Option Addr) (c : Nat), v = .slice a 0 c ∧ wr.ranges Tryz.prog 9 heldR b w1.heap.size 0 (.map []) left cnt ∧ (∀ kl, left kl = true → False) ∧ Below w00.heap.size w00 wr) (fun v wr => 0)
  case atStart =>
    obtain ⟨a, c, e⟩ := row_block hrow1
    exact ⟨_, _, a, c, e, hrg0, (fun kl h => by simp [Maps.has] at h), hb1⟩
  case round =>
    obtain ⟨left, cnt, a, c, rfl, hrg, hno, hb⟩ := hrel
    rcases hrg.next law9 0 with ⟨h0, hl0, hrun⟩ | ⟨key, v, kl, y, w2, cnt2, hkey, hlk, hv, hat, hrun, hrg2, hlt, hg2, hs2, hen⟩
    · have hc := hid (sort0 a c wr)
      replace hb := hid hb
      clear hrg hno hl0 h0
      go_wp2_with (first | (go_at_call 66; refine hc.out.mono ?_; rintro e w3 ⟨rfl, hw3⟩; subst hw3))
      go_ret
      exact ⟨a, c, rfl, hb.out⟩
    · exact (hno _ hlk).elim
end Go.Proofs.YtchmkgajakkfoaaGreatDoor.Md
