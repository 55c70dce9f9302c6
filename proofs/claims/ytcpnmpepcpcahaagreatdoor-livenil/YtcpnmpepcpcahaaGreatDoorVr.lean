/- countFiles, risingNumbers, areUnlike by their contracts; Valid. -/
import Derived.Test.YtcpnmpepcpcahaaGreatDoorVq
import Derived.Test.YtcpnmpepcpcahaaGreatDoorSh
import Derived.Sort.OwnSortedInts
namespace Go.Proofs.YtcpnmpepcpcahaaGreatDoor.Vr
open Go.ChangeShapes Go.WideShapes Go.ChangeAt Go.RowKit
open Go.Proofs.YtcpnmpepcpcahaaGreatDoor.Gr
open Go.Proofs.YtcpnmpepcpcahaaGreatDoor.Ev
open Go.Proofs.YtcpnmpepcpcahaaGreatDoor.Oe
open Go.Proofs.YtcpnmpepcpcahaaGreatDoor.Lv
open Go.Proofs.YtcpnmpepcpcahaaGreatDoor.Vp
open Go.Proofs.YtcpnmpepcpcahaaGreatDoor.Vq
set_option linter.unusedVariables false
set_option linter.unusedSimpArgs false

theorem wpList_append_run {P : Program} {w w' : World} {ops : Array Oper} {rest : List Oper} {o : Oper} {a : Act} {Q : Exit → Act → World → Prop} (hg : o.guard = none) (s x : Operand) (t tx : TypeId) (hop : o.op = Op.call { callee := Callee.builtin Builtin.append, args := #[s, x], argTypes := #[t, tx] })
    (u v v' : Value) (hs : a.eval s = u) (hx : a.eval x = v) (hrun : (Builtin.append_ #[t, tx] o.type #[u, v]).run P w = .ok v' w') (hK : wpList P ops Q rest (a.put o.dst v') w') : wpList P ops Q (o :: rest) a w := by
  refine wpList_plain hg fun K' hK' => ?_
  unfold Oper.wp
  simp [execOp, hop, resolve, invoke, builtin, hs, hx, hrun, Result.andThen]
  exact hK' _ _ hK
theorem below_grown {w W W' : World} {n : Nat} {row : Option Nat} (h : Below n w W) (hn : n ≤ W.heap.size) (g : W.grownBy W' row) (hr : ∀ j, row = some j → n ≤ j) : Below n w W' :=
  ⟨g.os.trans h.os, g.tape.trans h.tape, g.output.trans h.output, Nat.le_trans h.size g.size, fun j hj => (g.block j (by omega) (fun e => by have := hr j e.symm; omega)).trans (h.block j hj)⟩
/-- A row that is made up by a call. -/
structure Acc {α : Type} (E : El α) (w W : World) (v : Value) (xs : List α) : Prop where
  o : E.Own W w.heap.size v xs
  lo : Below w.heap.size w W
section
variable {α : Type} {E : El α} {w W : World} {v : Value} {xs : List α}
theorem Acc.later (h : Acc E w W v xs) {W' : World} (b : Below W.heap.size W W') : Acc E w W' v xs := ⟨h.o.later b, Below.up h.lo b⟩
theorem Acc.sz (h : Acc E w W v xs) : w.heap.size ≤ W.heap.size := h.lo.size
theorem Acc.shape (h : Acc E w W v xs) : ∃ a c, v = .slice a xs.length c := row_block h.o
theorem Acc.nn (h : Acc E w W v xs) (hx : xs ≠ []) : ∃ g c, v = .slice (some ⟨g, 0, none⟩) xs.length c := by
  rcases h.o.2 with ⟨h1, h2⟩ | ⟨g, c, cur, h1, _⟩
  · exact absurd (List.eq_nil_of_length_eq_zero h2) hx
  · exact ⟨g, c, h1⟩
theorem Acc.app1 (h : Acc E w W v xs) (x : α) (cs : Array Value) (hcs : cs = (E.cs x).toArray) (hn : (xs.length + 1) * E.by_ ≤ 140737488355328) (hn2 : xs.length + 1 ≤ 140737488355328) :
    ∃ v' W', (Builtin.append_ #[E.st, E.st] E.st #[v, .slice (some ⟨W.heap.size, 0, none⟩) 1 1]).run Tryz.prog (W.alloc (.cells cs E.et)) = .ok v' W' ∧ Acc E w W' v' (xs ++ [x]) := by
  obtain ⟨v', W', h1, h2, h3, h4⟩ := El.app1 E W w.heap.size v xs x cs hcs h.o hn hn2 h.sz
  exact ⟨v', W', h1, h2, below_grown h.lo h.sz h3 (fun j hj => (own_lt h.o j hj).1)⟩
theorem Acc.app (h : Acc E w W v xs) {a : Option Addr} {m c : Nat} {ys : List α} (HB : E.Sl W a m c ys) (hn : (xs.length + m) * E.by_ ≤ 140737488355328) (hn2 : xs.length + m ≤ 140737488355328) :
    ∃ v' W', (Builtin.append_ #[E.st, E.st] E.st #[v, .slice a m c]).run Tryz.prog W = .ok v' W' ∧ Acc E w W' v' (xs ++ ys) := by
  obtain ⟨v', W', h1, h2, h3, h4⟩ := El.app E W w.heap.size v xs h.o a m c ys HB hn hn2 h.sz
  exact ⟨v', W', h1, h2, below_grown h.lo h.sz h3 (fun j hj => (own_lt h.o j hj).1)⟩
theorem Acc.nil (E : El α) (w : World) : Acc E w w (.slice none 0 0) [] := ⟨El.Own.nil E w _, Below.refl _ _⟩
theorem Acc.made (E : El α) (w : World) : Acc E w (w.alloc (.cells #[] E.et)) (.slice (some ⟨w.heap.size, 0, none⟩) 0 0) [] := ⟨El.Own.made E w, box_below _ _⟩
end
/-- The Numbers of all files. -/
def nums (L : List (List Fi)) : List Int := L.flatMap fun fs => fs.map Fi.n
theorem nums_snoc {L : List (List Fi)} {i : Nat} (h : i < L.length) : nums (L.take (i + 1)) = nums (L.take i) ++ (L.getD i []).map Fi.n := by
  rw [take_succ h]; simp [nums]
theorem nums_len : ∀ L : List (List Fi), (nums L).length ≤ wL L
  | [] => Nat.zero_le _
  | fs :: r => by
    have h1 := nums_len r
    have h2 := wsum_len wF (fun x => by unfold wF; omega) fs
    show (fs.map Fi.n ++ nums r).length ≤ wsum wF fs + 1 + wL r
    rw [List.length_append, List.length_map]
    omega
theorem nums_take {L : List (List Fi)} (i : Nat) : (nums (L.take i)).length ≤ wL L := Nat.le_trans (nums_len _) wL_take
def srt (xs : List Int) : List Int := xs.mergeSort fun x y => decide (x ≤ y)
theorem srt_len (xs : List Int) : (srt xs).length = xs.length := by simp [srt]
set_option maxHeartbeats 1000000 in
theorem count_any (a : Option Addr) (len cap : Nat) (L : List (List Fi)) (w : World) (H : Lvs w a len cap L) (hw : wL L ≤ 1048576) :
    Calls Tryz.prog 77 #[.slice a len cap] w fun e w' => e = .returned (.int .i64 (nums L).length) ∧ w' = w := by
  have hll := wL_len L
  have hlen := H.len_eq
  have hcap := H.cap_le
  have hn8 : len ≤ 1048576 := by omega
  replace hlen := hid hlen
  replace hw := hid hw
  have HL := hid H
  clear H hll
  obtain ⟨z0, hz0⟩ : ∃ z, z = (nums L).length := ⟨_, rfl⟩
  rw [← hz0]
  replace hz0 := hid hz0
  go_enter Tryz.func77, Tryz.ntmps77
  go_wp2_with fail
  go_loopw [3, 8] (fun n ii wr => ∃ i z : Nat, ii = .int .i64 i ∧ i ≤ len ∧ n = .int .i64 z ∧ Hid (z = (nums (L.take i)).length) ∧ wr = w) (fun _ ii _ => len - (intOf ii).toNat)
  case atStart => exact ⟨0, 0, rfl, by omega, rfl, rfl, rfl⟩
  case round =>
    obtain ⟨i, z, rfl, hi, rfl, hz, rfl⟩ := hrel
    by_cases hlt : i < len
    · obtain ⟨lb, lof, la, ln, lc, rfl, cl, FS, hln⟩ := HL.out.at i hlt
      have ik0 : (i : Int) < (len : Int) := by omega
      have ok0 : (0 : Int) ≤ (i : Int) := by omega
      have hs := nums_snoc (L := L) (i := i) (by rw [hlen.out]; exact hlt)
      have h8 := nums_take (L := L) (i + 1)
      have hzz : Hid (z + ln = (nums (L.take (i + 1))).length) := by
        show _ = _
        rw [hs, List.length_append, List.length_map, ← hln, ← hz.out]
      have hz8 : z + ln ≤ 1048576 := by have := hw.out; have := hzz.out; omega
      clear hs h8 FS hln
      go_wp2_with fail
      go_roundw
      case rel => exact ⟨i + 1, z + ln, by go_num, by omega, by go_num, hzz, trivial⟩
      case measure => simp [intOf]; omega
    · have hie : i = len := by omega
      subst hie
      have hzz : Hid (z = z0) := by
        show _ = _
        rw [hz.out, hz0.out, ← hlen.out, List.take_length]
      clear hz
      go_wp2_with fail
      go_ret
      exact ⟨by rw [hzz.out]; rfl, rfl⟩
/-- No two neighbours are alike. -/
def adj (xs : List Int) : Prop := ∀ i, i + 1 < xs.length → xs.getD i 0 ≠ xs.getD (i + 1) 0
instance (xs : List Int) : Decidable (adj xs) := by
  have : adj xs ↔ ∀ i, i < xs.length - 1 → xs.getD i 0 ≠ xs.getD (i + 1) 0 := ⟨fun h i hi => h i (by omega), fun h i hi => h i (by omega)⟩
  rw [this]; infer_instance
theorem in_at {w : World} {b o : Nat} {x : Int} (h : eInt.At w b o x) : w.cell? ⟨b, o, none⟩ = some (.int .i64 x) := h 0 _ rfl
set_option maxHeartbeats 1000000 in
theorem unlike_any (a : Option Addr) (n c : Nat) (xs : List Int) (w : World) (H : eInt.Sl w a n c xs) (hn8 : n ≤ 1048576) :
    Calls Tryz.prog 57 #[.slice a n c] w fun e w' => e = .returned (.bool (decide (adj xs))) ∧ Below w.heap.size w w' := by
  obtain ⟨B, hB⟩ : ∃ B, B = decide (adj xs) := ⟨_, rfl⟩
  rw [← hB]
  have hlen := hid H.n
  have hnc := H.c
  have HL := hid H
  replace hB := hid hB
  clear H
  go_enter Tryz.func57, Tryz.ntmps57
  go_wp2_with fail
  go_loopw [3] (fun ii wr => ∃ m : Nat, ii = .int .i64 ((m : Int) + 1) ∧ m ≤ n ∧ Hid (∀ k, k < m → k + 1 < n → xs.getD k 0 ≠ xs.getD (k + 1) 0) ∧ ∃ q, wr = w.drewN q) (fun ii _ => n - (intOf ii).toNat)
  case atStart => exact ⟨0, rfl, by omega, fun k hk => by omega, 0, rfl⟩
  case round =>
    obtain ⟨m, rfl, hm, hall, q, rfl⟩ := hrel
    by_cases hlt : m + 1 < n
    · obtain ⟨b, o, rfl, hat⟩ := get1 HL.out m (by omega)
      have e1 := in_at (hat m (by omega))
      have e2 := in_at (hat (m + 1) (by omega))
      rw [show eInt.z = 0 from rfl] at e1 e2
      rw [show eInt.k = 1 from rfl, Nat.mul_one] at e1 e2
      have m0 : (m : Int) < (n : Int) := by omega
      have m1 : (0 : Int) ≤ (m : Int) := by omega
      have m2 : (m : Int) + 1 < (n : Int) := by omega
      have m3 : (0 : Int) ≤ (m : Int) + 1 := by omega
      clear hat
      by_cases he : xs.getD m 0 = xs.getD (m + 1) 0
      · have hBf : Hid (false = B) := by
          show _ = _
          rw [hB.out]; symm; apply decide_eq_false
          exact fun h => h m (by rw [hlen.out]; exact hlt) he
        rw [← he] at e2
        clear he
        generalize xs.getD m 0 = x at e1 e2
        have t1 : (x == x) = true := beq_self_eq_true x
        go_wp2_with fail
        go_quiet (fail)
        go_wp2_with fail
        go_ret
        exact ⟨ret_bool hBf.out, Below.up (drewN_below _ _) (drewN_below _ _)⟩
      · have hal : Hid (∀ k, k < m + 1 → k + 1 < n → xs.getD k 0 ≠ xs.getD (k + 1) 0) := by
          intro k hk hkn
          by_cases e : k < m
          · exact hall.out k e hkn
          · rw [show k = m by omega]; exact he
        have t1 : (xs.getD m 0 == xs.getD (m + 1) 0) = false := by simpa using he
        clear he
        generalize xs.getD m 0 = x at e1 t1
        generalize xs.getD (m + 1) 0 = y at e2 t1
        go_wp2_with fail
        go_quiet (fail)
        go_wp2_with fail
        go_roundw
        case rel => exact ⟨m + 1, by go_num, by omega, hal, q + nq, rfl⟩
        case measure => simp [intOf]; omega
    · have hBt : Hid (true = B) := by
        show _ = _
        rw [hB.out]; symm; apply decide_eq_true
        intro k hk
        exact hall.out k (by rw [hlen.out] at hk; omega) (by rw [hlen.out] at hk; exact hk)
      have hf : decide ((m : Int) + 1 < (n : Int)) = false := decide_eq_false (by omega)
      go_wp2_with fail
      go_ret
      exact ⟨ret_bool hBt.out, drewN_below _ _⟩
end Go.Proofs.YtcpnmpepcpcahaaGreatDoor.Vr
