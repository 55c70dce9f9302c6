/- A list in memory: its block, the row of its nodes; the small calls. -/
import Derived.Test.YtefihoohdaegeaaSg
import Derived.Test.YtefihoohdaegeaaVl
import Derived.Deep.AppendSrc
import Derived.Laws.OwnMore
import Derived.LoopTactic
import Derived.BigQuiet
import Derived.Lib.QuietBelow
namespace Go.Proofs.Ytefihoohdaegeaa.Mm
open Go.ChangeShapes Go.WideShapes Go.ChangeAt Go.RowKit
open Go.Proofs.Ytefihoohdaegeaa.Ik
open Go.Proofs.Ytefihoohdaegeaa.Sg
set_option linter.unusedVariables false
set_option linter.unusedSimpArgs false

theorem hid {p : Prop} (h : p) : Hid p := h
theorem box_below (w : World) (o : Obj) : Below w.heap.size w (w.alloc o) := (Below.refl _ _).alloc (Nat.le_refl _) o
def zv : Value := .string ⟨#[]⟩
/-- A cell of a node: the key's three, what belongs to it, the tower's twelve. -/
def cv (ns : List N) (tw : Nat → Nat → Nat) (i : Nat) : Nat → Value
  | 0 => .string (nd ns i).k
  | 1 => .int .u64 (nd ns i).s
  | 2 => .int .i64 (nd ns i).c
  | 3 => if i = 0 then zv else (nd ns i).v
  | j + 4 => .int .i32 (tw i j : Int)
def Hd (w : World) (g : Nat) (most h : Nat) (b n cap : Nat) : Prop := w.heap[g]? = some (.cells #[.int .i64 (most : Int), .int .i64 (h : Int), .slice (some ⟨b, 0, none⟩) n cap] 135)
def Rw (w : World) (b cap : Nat) (ns : List N) (tw : Nat → Nat → Nat) : Prop :=
  ∃ cur : Array Value, w.heap[b]? = some (.cells cur 158 (0, 0)) ∧ cur.size = cap * 16 ∧ ns.length + 1 ≤ cap ∧ cap ≤ maxLen ∧ ∀ i, i ≤ ns.length → ∀ j, j < 16 → cur[i * 16 + j]? = some (cv ns tw i j)
theorem Hd.lt {w : World} {g most h b n cap : Nat} (H : Hd w g most h b n cap) : g < w.heap.size := (Array.getElem?_eq_some_iff.1 H).1
theorem Hd.later {w w' : World} {g most h b n cap : Nat} (H : Hd w g most h b n cap) (k : Below w.heap.size w w') : Hd w' g most h b n cap := (k.block g H.lt).trans H
theorem Hd.c0 {w : World} {g most h b n cap : Nat} (H : Hd w g most h b n cap) : w.cell? ⟨g, 0, none⟩ = some (.int .i64 (most : Int)) := by
  unfold World.cell?; rw [show w.heap[g]? = _ from H]; rfl
theorem Hd.c1 {w : World} {g most h b n cap : Nat} (H : Hd w g most h b n cap) : w.cell? ⟨g, 1, none⟩ = some (.int .i64 (h : Int)) := by
  unfold World.cell?; rw [show w.heap[g]? = _ from H]; rfl
theorem Hd.c2 {w : World} {g most h b n cap : Nat} (H : Hd w g most h b n cap) : w.cell? ⟨g, 2, none⟩ = some (.slice (some ⟨b, 0, none⟩) n cap) := by
  unfold World.cell?; rw [show w.heap[g]? = _ from H]; rfl
theorem Hd.fz {w : World} {g most h b n cap : Nat} (H : Hd w g most h b n cap) (o : Nat) : w.frozen? ⟨g, o, none⟩ = false := by
  simp [World.frozen?, show w.heap[g]? = _ from H]
theorem Rw.lt {w : World} {b cap : Nat} {ns : List N} {tw : Nat → Nat → Nat} (H : Rw w b cap ns tw) : b < w.heap.size := by
  obtain ⟨cur, h, _⟩ := H; exact (Array.getElem?_eq_some_iff.1 h).1
theorem Rw.later {w w' : World} {b cap : Nat} {ns : List N} {tw : Nat → Nat → Nat} (H : Rw w b cap ns tw) (k : Below w.heap.size w w') : Rw w' b cap ns tw := by
  have hl := H.lt
  obtain ⟨cur, h, r⟩ := H; exact ⟨cur, (k.block b hl).trans h, r⟩
theorem Rw.fz {w : World} {b cap : Nat} {ns : List N} {tw : Nat → Nat → Nat} (H : Rw w b cap ns tw) (o : Nat) : w.frozen? ⟨b, o, none⟩ = false := by
  obtain ⟨cur, h, _⟩ := H; simp [World.frozen?, h]
theorem Rw.cell {w : World} {b cap : Nat} {ns : List N} {tw : Nat → Nat → Nat} (H : Rw w b cap ns tw) (i j : Nat) (hi : i ≤ ns.length) (hj : j < 16) : w.cell? ⟨b, i * 16 + j, none⟩ = some (cv ns tw i j) := by
  obtain ⟨cur, h, _, _, _, r⟩ := H
  unfold World.cell?; rw [h]; simpa using r i hi j hj
/-- The list. -/
structure Lst (w : World) (base g b cap most : Nat) (ns : List N) (tw : Nat → Nat → Nat) : Prop where
  hd : Hd w g most (top ns) b (ns.length + 1) cap
  rw : Rw w b cap ns tw
  bg : base ≤ g
  bb : base ≤ b
  ne : g ≠ b
  m1 : 1 ≤ most
  m2 : most ≤ 1048576
  ln : ns.length ≤ most
  tl : ∀ i, i ≤ ns.length → ∀ j, tw i j ≤ ns.length
theorem Lst.later {w w' : World} {base g b cap most : Nat} {ns : List N} {tw : Nat → Nat → Nat} (H : Lst w base g b cap most ns tw) (k : Below w.heap.size w w') : Lst w' base g b cap most ns tw :=
  ⟨H.hd.later k, H.rw.later k, H.bg, H.bb, H.ne, H.m1, H.m2, H.ln, H.tl⟩

theorem isnone_nil (w : World) : Calls Try.prog 89 #[.pointer none] w fun e w' => e = .returned (.bool true) ∧ w' = w := by
  go_enter Try.func89, Try.ntmps89
  go_wp2
  go_ret
  exact ⟨rfl, rfl⟩
theorem isnone_any (g most h b n cap : Nat) (w : World) (H : Hd w g most h b n cap) (hm : 1 ≤ most) : Calls Try.prog 89 #[.pointer (some ⟨g, 0, none⟩)] w fun e w' => e = .returned (.bool false) ∧ w' = w := by
  have c0 := H.c0
  have e0 : ((most : Int) == 0) = false := by simp; omega
  go_enter Try.func89, Try.ntmps89
  go_wp2
  go_ret
  exact ⟨rfl, rfl⟩
theorem len_any (g most h b n cap : Nat) (w : World) (H : Hd w g most h b (n + 1) cap) (hm : 1 ≤ most) (hn : n ≤ 1048576) : Calls Try.prog 67 #[.pointer (some ⟨g, 0, none⟩)] w fun e w' => e = .returned (.int .i64 (n : Int)) ∧ w' = w := by
  have HN := hid (isnone_any g most h b _ cap w H hm)
  have c2 := H.c2
  go_enter Try.func67, Try.ntmps67
  go_wp2_with fail
  refine HN.out.mono ?_
  rintro e w' ⟨rfl, rfl⟩
  go_wp2_with fail
  go_ret
  exact ⟨by go_num, rfl⟩
theorem height_any (g most h b n cap : Nat) (w : World) (H : Hd w g most h b n cap) (hm : 1 ≤ most) : Calls Try.prog 94 #[.pointer (some ⟨g, 0, none⟩)] w fun e w' => e = .returned (.int .i64 (h : Int)) ∧ w' = w := by
  have HN := hid (isnone_any g most h b _ cap w H hm)
  have c1 := H.c1
  go_enter Try.func94, Try.ntmps94
  go_wp2_with fail
  refine HN.out.mono ?_
  rintro e w' ⟨rfl, rfl⟩
  go_wp2_with fail
  go_ret
  exact ⟨rfl, rfl⟩
theorem next_any (base g b cap most : Nat) (ns : List N) (tw : Nat → Nat → Nat) (n lv : Nat) (w : World) (H : Lst w base g b cap most ns tw) (hn : n ≤ ns.length) (hlv : lv < 12) :
    Calls Try.prog 93 #[.pointer (some ⟨g, 0, none⟩), .int .i64 (n : Int), .int .i64 (lv : Int)] w fun e w' => e = .returned (.int .i64 (tw n lv : Int)) ∧ w' = w := by
  have c2 := H.hd.c2
  have c3 : w.cell? ⟨b, n * 16 + 4 + lv, none⟩ = some (.int .i32 (tw n lv : Int)) := by
    have := H.rw.cell n (lv + 4) hn (by omega)
    rw [show n * 16 + 4 + lv = n * 16 + (lv + 4) by omega]; exact this
  have ht := H.tl n hn lv
  have hl1 := H.ln
  have hl2 := H.m2
  generalize tw n lv = T at *
  have i1 : (n : Int) < ((ns.length + 1 : Nat) : Int) := by omega
  go_enter Try.func93, Try.ntmps93
  go_wp2
  go_ret
  exact ⟨by go_num, rfl⟩
end Go.Proofs.Ytefihoohdaegeaa.Mm
