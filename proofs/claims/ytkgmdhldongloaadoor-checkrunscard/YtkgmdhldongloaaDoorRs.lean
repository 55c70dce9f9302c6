/- Contracts of what a Running tells, of one that no call gave, of the document's own Running, and of the law's look at both. -/
import Derived.Test.YtkgmdhldongloaaDoorRn
import Derived.Test.YtkgmdhldongloaaDoorRl
import Derived.Test.YtkgmdhldongloaaDoorLn
import Derived.BigQuiet
import Derived.Deep.QuietTactic
namespace Go.Proofs.YtkgmdhldongloaaDoor.Rs
open Go.ChangeShapes Go.WideShapes Go.ChangeAt Go.RowKit
open Go.Proofs.YtkgmdhldongloaaDoor.Crc
open Go.Proofs.YtkgmdhldongloaaDoor.Ck
open Go.Proofs.YtkgmdhldongloaaDoor.Lm (grown_set tab_later after_any)
open Go.Proofs.YtkgmdhldongloaaDoor.Rf
open Go.Proofs.YtkgmdhldongloaaDoor.Rl (rCombine_any)
open Go.Proofs.YtkgmdhldongloaaDoor.Rn
set_option linter.unusedVariables false

def plus : BitVec 32 := 2726488792#32
theorem plus_i : (2726488792 : Int) = toI plus := by decide
def mask (x : BitVec 32) : BitVec 32 := rotr x + plus
theorem shr15 (x : BitVec 32) : toI x / (32768 : Int) = toI (x >>> 15) := shr_i x 15
theorem shl17 (x : BitVec 32) : toI x * (131072 : Int) % (4294967296 : Int) = toI (x <<< 17) := by
  have := shl_i x 17; rw [wrap_u32] at this; exact this
theorem add_m (x y : BitVec 32) : (toI x + toI y) % (4294967296 : Int) = toI (x + y) := by
  have := add_i x y; rw [wrap_u32] at this; exact this
theorem rotr_any (x : BitVec 32) (w : World) : Calls Tryd.prog 53 #[.int .u32 (toI x), .int .i64 (-15)] w fun e w' => e = .returned (.int .u32 (toI (rotr x))) ∧ w' = w := by
  have E : Hid (bits .or .u32 (toI x * 131072 % 4294967296) (toI x / 32768) = toI (rotr x)) := by
    show _ = _
    rw [shl17, shr15, or_i, BitVec.or_comm]; rfl
  have A : bits .and .u64 (IntKind.u64.wrap (-15)) 31 = 17 := by decide
  go_enter Tryd.func53, Tryd.ntmps53
  go_wp2
  go_ret
  exact ⟨ret_int E.out, rfl⟩
theorem mask_any (x : BitVec 32) (w : World) : Calls Tryd.prog 44 #[.int .u32 (toI x)] w fun e w' => e = .returned (.int .u32 (toI (mask x))) ∧ w' = w := by
  have E : Hid ((toI (rotr x) + 2726488792) % 4294967296 = toI (mask x)) := by
    show _ = _
    rw [plus_i, add_m]; rfl
  go_enter Tryd.func44, Tryd.ntmps44
  go_wp2_with fail
  refine (rotr_any x _).mono ?_
  rintro e w' ⟨rfl, rfl⟩
  go_wp2
  go_ret
  exact ⟨ret_int E.out, rfl⟩
theorem rmask_any (x : BitVec 32) (w : World) : Calls Tryd.prog 39 #[.int .u32 (toI x)] w fun e w' => e = .returned (.int .u32 (toI (mask x))) ∧ w' = w := by
  have E : Hid ((bits .or .u32 (toI x / 32768) (toI x * 131072 % 4294967296) + 2726488792) % 4294967296 = toI (mask x)) := by
    show _ = _
    rw [shr15, shl17, or_i, plus_i, add_m]; rfl
  go_enter Tryd.func39, Tryd.ntmps39
  go_wp2
  go_ret
  exact ⟨ret_int E.out, rfl⟩
theorem Masked_at (r : Nat) (s : BitVec 32) (n : Int) (w : World) (A : Hid (At w r s n)) : Calls Tryd.prog 29 #[.pointer (some ⟨r, 0, none⟩)] w fun e w' => e = .returned (.int .u32 (toI (mask s))) ∧ w' = w := by
  have c1 := A.out.c1
  go_enter Tryd.func29, Tryd.ntmps29
  go_wp2_with fail
  refine (isNone_at r s n _ A).mono ?_
  rintro e w' ⟨rfl, rfl⟩
  go_wp2_with fail
  refine (mask_any s _).mono ?_
  rintro e w' ⟨rfl, rfl⟩
  go_wp2
  go_ret
  exact ⟨rfl, rfl⟩
set_option maxHeartbeats 2000000 in
theorem Clear_at (r : Nat) (s : BitVec 32) (n : Int) (w : World) (A : Hid (At w r s n)) : Calls Tryd.prog 24 #[.pointer (some ⟨r, 0, none⟩)] w fun e w' => e = .returned (.tuple #[]) ∧ At w' r 0#32 0 ∧ w.grownBy w' (some r) := by
  have c1 := A.out.c1
  have f1 := A.out.fz (0 + 1)
  have A6 := A.out.set1 0#32
  have c62 := A6.1.c2
  have f62 := A6.1.fz (0 + 2)
  have HA6 := hid A6.1
  have G6 := hid A6.2
  clear A6
  rw [show toI 0#32 = 0 from by decide] at c62 f62 HA6 G6
  go_enter Tryd.func24, Tryd.ntmps24
  go_wp2_with fail
  refine (isNone_at r s n _ A).mono ?_
  rintro e w ⟨rfl, rfl⟩
  generalize hW6 : w.setCell ⟨r, 1, none⟩ (.int .u32 0) = W6 at c62 f62 HA6 G6
  have hW7 : w.setCell ⟨r, 0 + 1, none⟩ (.int .u32 0) = W6 := hW6
  go_wp2_with fail
  have A7 := HA6.out.set2 0
  have HA7 := hid A7.1
  have G7 := hid (grown_trans G6.out A7.2)
  clear A7
  go_end0
  exact ⟨rfl, HA7.out, G7.out⟩

/-! ### The law's look at both -/
set_option maxHeartbeats 4000000 in
theorem stands_any (r : Nat) (s : BitVec 32) (n : Nat) (w : World) (A : Hid (At w r s n)) :
    Calls Tryd.prog 23 #[.pointer (some ⟨r, 0, none⟩), .agg #[.int .u32 (toI s), .int .i64 n]] w fun e w' => e = .returned (.bool true) ∧ Below w.heap.size w w' := by
  have hlt := A.out.lt
  have b0 := (Below.refl w.heap.size w).alloc (Nat.le_refl _) (.cells #[.int .u32 (toI s), .int .i64 n] 52)
  have HB := hid b0
  have A1 := hid (A.out.kept (below_grown b0) (by simp))
  have F1 : Hid (∀ q, Calls Tryd.prog 28 #[.pointer (some ⟨r, 0, none⟩)] ((w.alloc (.cells #[.int .u32 (toI s), .int .i64 n] 52)).drewN q) fun e w' => e = .returned (.int .u32 (toI s)) ∧ w' = (w.alloc (.cells #[.int .u32 (toI s), .int .i64 n] 52)).drewN q) := fun q => Sum_at r s n _ A1
  have F2 : Hid (∀ q, Calls Tryd.prog 29 #[.pointer (some ⟨r, 0, none⟩)] ((w.alloc (.cells #[.int .u32 (toI s), .int .i64 n] 52)).drewN q) fun e w' => e = .returned (.int .u32 (toI (mask s))) ∧ w' = (w.alloc (.cells #[.int .u32 (toI s), .int .i64 n] 52)).drewN q) := fun q => Masked_at r s n _ A1
  have F3 : Hid (∀ q, Calls Tryd.prog 39 #[.int .u32 (toI s)] ((w.alloc (.cells #[.int .u32 (toI s), .int .i64 n] 52)).drewN q) fun e w' => e = .returned (.int .u32 (toI (mask s))) ∧ w' = (w.alloc (.cells #[.int .u32 (toI s), .int .i64 n] 52)).drewN q) := fun q => rmask_any s _
  have F4 : Hid (∀ q, Calls Tryd.prog 30 #[.pointer (some ⟨r, 0, none⟩)] ((w.alloc (.cells #[.int .u32 (toI s), .int .i64 n] 52)).drewN q) fun e w' => e = .returned (.int .i64 n) ∧ w' = (w.alloc (.cells #[.int .u32 (toI s), .int .i64 n] 52)).drewN q) := fun q => Len_at r s n _ A1
  clear b0 A A1 hlt
  go_enter Tryd.func23, Tryd.ntmps23
  go_wp2_with fail
  go_quiet (first | (go_at_call 28; exact Calls.quiet_of_same (F1.out _)) | (go_at_call 29; exact Calls.quiet_of_same (F2.out _)) | (go_at_call 39; exact Calls.quiet_of_same (F3.out _)) | (go_at_call 30; exact Calls.quiet_of_same (F4.out _)))
  go_wp2_with fail
  go_ret
  exact ⟨rfl, below_drewN HB.out _⟩

/-! ### The document's own Running -/
theorem info52 : (Tryd.prog.info? 52).map (·.size) = some 2 := by kernel_rfl
theorem load2 {W : World} {b : Nat} {x y : Value} (h : Lm.Blk W b 52 #[x, y]) : (loadVar 52 ⟨b, 0, none⟩).run Tryd.prog W = .ok (.agg #[x, y]) W :=
  run_loadVar_row W b 52 52 #[x, y] (0, 0) _ h Tryd.underlying52 rfl info52
theorem two_below (w : World) (o p : Obj) : Below w.heap.size w ((w.alloc o).alloc p) := ((Below.refl _ _).alloc (Nat.le_refl _) _).alloc (by simp) _
theorem two_blk (w : World) (o : Obj) (x y : Value) : Lm.Blk ((w.alloc o).alloc (.cells #[x, y] 52)) (w.heap.size + 1) 52 #[x, y] := by
  have := Lm.Blk.new (w.alloc o) 52 #[x, y]
  simpa using this
theorem two_blk_drew (w : World) (o : Obj) (x y : Value) : Lm.Blk ((w.alloc o).alloc (.cells #[x, y] 52)).drew (w.heap.size + 1) 52 #[x, y] := two_blk w o x y
theorem radd_big (s : BitVec 32) (n : Nat) (a : Option Addr) (len cap : Nat) (w : World) (hn : n ≤ 9007199254740992) (hs : ¬ n + len ≤ 9007199254740992) (hl : len ≤ 281474976710656) :
    Calls Tryd.prog 37 #[.agg #[.int .u32 (toI s), .int .i64 n], .slice a len cap] w fun e w' => e = .returned (.tuple #[.agg #[.int .u32 (toI s), .int .i64 n], .int .i64 3]) ∧ Below w.heap.size w w' := by
  have hI : 9007199254740992 - (n : Int) < (len : Int) := by omega
  go_enter Tryd.func37, Tryd.ntmps37
  go_wp2_with fail
  refine bodyPost_ret (v := .tuple #[.agg #[.int .u32 (toI s), .int .i64 n], .int .i64 3]) ?_ rfl ⟨rfl, two_below w _ _⟩
  rw [results_cell_tmp rfl]
  simp [asAddr, Result.andThen]
  rw [load2 (two_blk w _ _ _)]
set_option maxHeartbeats 8000000 in
theorem radd_ok (s : BitVec 32) (n : Nat) (a : Option Addr) (len cap : Nat) (zs : List Int) (w : World) (H : Hid (Bytes w a len cap zs)) (hs : n + len ≤ 9007199254740992) (hl : len ≤ 281474976710656) :
    Calls Tryd.prog 37 #[.agg #[.int .u32 (toI s), .int .i64 n], .slice a len cap] w fun e w' => e = .returned (.tuple #[.agg #[.int .u32 (toI (extend s zs)), .int .i64 ((n + len : Nat) : Int)], .int .i64 0]) ∧ Below w.heap.size w w' := by
  have hI : ¬ 9007199254740992 - (n : Int) < (len : Int) := by omega
  have WE : Hid (IntKind.i64.wrap ((n : Int) + (len : Int)) = ((n + len : Nat) : Int)) := by show _ = _; rw [IntKind.wrap_i64]; omega
  obtain ⟨X, HX⟩ : ∃ X, Hid (X = extend s zs) := ⟨_, rfl⟩
  rw [← HX.out]
  have HD : Hid (Bytes ((w.alloc (.cells #[.int .u32 (toI s), .int .i64 n] 52)).alloc (.cells #[.int .u32 0, .int .i64 0] 52)).drew a len cap zs) := bytes_kept H.out (((Below.refl _ _).alloc (Nat.le_refl _) _).alloc (by simp) _).drew
  go_enter Tryd.func37, Tryd.ntmps37
  go_wp2_with fail
  refine wp_region_any (by kernel_rfl) ?_
  change wpAny _ _ _ _ _ _ _ (World.drew _)
  refine wpAny_take (i := 0) (v := ?v1) rfl (by kernel_rfl) (by kernel_rfl) (by kernel_rfl) (fun _ _ _ h => h) (Or.inl ⟨by rfl, ?h1⟩) ?_
  case h1 => (intro w; go_simp; try (with_reducible rfl))
  go_simp
  refine wpAny_take (i := 2) (v := ?v2) rfl (by kernel_rfl) (by kernel_rfl) (by kernel_rfl) (fun _ _ _ h => h) (Or.inl ⟨by rfl, ?h2⟩) ?_
  case h2 => (intro w; go_simp; try (with_reducible rfl))
  go_simp
  refine wpAny_take (i := 4) (v := ?v3) rfl (by kernel_rfl) (by kernel_rfl) (by kernel_rfl) (fun _ _ _ h => h) (Or.inl ⟨by rfl, ?h3⟩) ?_
  case h3 => (intro w; go_simp; try (with_reducible rfl))
  go_simp
  refine wpAny_take (i := 6) (v := ?v4) rfl (by kernel_rfl) (by kernel_rfl) (by kernel_rfl) (fun _ _ _ h => h) (Or.inl ⟨by rfl, ?h4⟩) ?_
  case h4 => (intro w; go_simp; try (with_reducible rfl))
  go_simp
  refine wpAny_take (i := 7) (v := ?v5) rfl (by kernel_rfl) (by kernel_rfl) (by kernel_rfl) (fun _ _ _ h => h) (Or.inl ⟨by rfl, ?h5⟩) ?_
  case h5 => (intro w; go_simp; try (with_reducible rfl))
  go_simp
  refine wpAny_ready (rs := [1, 5]) (by kernel_rfl) (by simp) ?_
  refine AllReady.cons rfl (fun K hK => ?_) ?_
  · go_simp
    refine hK _ _ ?_
    clear hK K
    refine wpAny_ready (rs := [3, 5]) (by kernel_rfl) (by simp) ?_
    refine AllReady.cons rfl (fun K hK => ?_) ?_
    · go_simp
      go_wp2_with fail
      refine (rExtend_any s a len cap zs _ HD.out (by omega)).mono ?_
      rintro e W5 ⟨rfl, rfl⟩
      rw [← HX.out]
      go_wp2_with fail
      refine wpAny_ready (rs := [5]) (by kernel_rfl) (by simp) ?_
      refine AllReady.cons rfl (fun K hK => ?_) ?_
      · go_simp
        refine hK _ _ ?_
        clear hK K
        refine wpAny_take (i := 8) (v := ?v6) rfl (by kernel_rfl) (by kernel_rfl) (by kernel_rfl) (fun _ _ _ h => h) (Or.inl ⟨by rfl, ?h6⟩) ?_
        case h6 => (intro w; go_simp; try (with_reducible rfl))
        go_simp
        refine wpAny_take (i := 9) (v := ?v7) rfl (by kernel_rfl) (by kernel_rfl) (by kernel_rfl) (fun _ _ _ h => h) (Or.inl ⟨by rfl, ?h7⟩) ?_
        case h7 => (intro w; go_simp; try (with_reducible rfl))
        go_simp
        refine wpAny_ready (rs := [10]) (by kernel_rfl) (by simp) ?_
        refine AllReady.cons rfl (fun K hK => ?_) ?_
        · go_simp
          refine hK _ _ ?_
          clear hK K
          refine wpAny_take (i := 11) (v := ?v8) rfl (by kernel_rfl) (by kernel_rfl) (by kernel_rfl) (fun _ _ _ h => h) (Or.inl ⟨by rfl, ?h8⟩) ?_
          case h8 => (intro w; go_simp; try (with_reducible rfl))
          go_simp
          refine wpAny_done (by kernel_rfl) ?_ _
          go_wp2_with fail
          rw [WE.out]
          refine bodyPost_ret (v := .tuple #[.agg #[.int .u32 (toI X), .int .i64 ((n + len : Nat) : Int)], .int .i64 0]) ?_ rfl ⟨rfl, (two_below w _ _).drew⟩
          rw [results_cell_tmp rfl]
          simp [asAddr, Result.andThen]
          rw [load2 (two_blk_drew w _ _ _)]
        exact AllReady.nil
      exact AllReady.nil
    refine AllReady.cons rfl (fun K hK => ?_) ?_
    · go_simp
      refine hK _ _ ?_
      clear hK K
      refine wpAny_take (i := 8) (v := ?v9) rfl (by kernel_rfl) (by kernel_rfl) (by kernel_rfl) (fun _ _ _ h => h) (Or.inl ⟨by rfl, ?h9⟩) ?_
      case h9 => (intro w; go_simp; try (with_reducible rfl))
      go_simp
      refine wpAny_ready (rs := [3]) (by kernel_rfl) (by simp) ?_
      refine AllReady.cons rfl (fun K hK => ?_) ?_
      · go_simp
        go_wp2_with fail
        refine (rExtend_any s a len cap zs _ HD.out (by omega)).mono ?_
        rintro e W5 ⟨rfl, rfl⟩
        rw [← HX.out]
        go_wp2_with fail
        refine wpAny_take (i := 9) (v := ?v10) rfl (by kernel_rfl) (by kernel_rfl) (by kernel_rfl) (fun _ _ _ h => h) (Or.inl ⟨by rfl, ?h10⟩) ?_
        case h10 => (intro w; go_simp; try (with_reducible rfl))
        go_simp
        refine wpAny_ready (rs := [10]) (by kernel_rfl) (by simp) ?_
        refine AllReady.cons rfl (fun K hK => ?_) ?_
        · go_simp
          refine hK _ _ ?_
          clear hK K
          refine wpAny_take (i := 11) (v := ?v11) rfl (by kernel_rfl) (by kernel_rfl) (by kernel_rfl) (fun _ _ _ h => h) (Or.inl ⟨by rfl, ?h11⟩) ?_
          case h11 => (intro w; go_simp; try (with_reducible rfl))
          go_simp
          refine wpAny_done (by kernel_rfl) ?_ _
          go_wp2_with fail
          rw [WE.out]
          refine bodyPost_ret (v := .tuple #[.agg #[.int .u32 (toI X), .int .i64 ((n + len : Nat) : Int)], .int .i64 0]) ?_ rfl ⟨rfl, (two_below w _ _).drew⟩
          rw [results_cell_tmp rfl]
          simp [asAddr, Result.andThen]
          rw [load2 (two_blk_drew w _ _ _)]
        exact AllReady.nil
      exact AllReady.nil
    exact AllReady.nil
  refine AllReady.cons rfl (fun K hK => ?_) ?_
  · go_simp
    refine hK _ _ ?_
    clear hK K
    refine wpAny_take (i := 8) (v := ?v12) rfl (by kernel_rfl) (by kernel_rfl) (by kernel_rfl) (fun _ _ _ h => h) (Or.inl ⟨by rfl, ?h12⟩) ?_
    case h12 => (intro w; go_simp; try (with_reducible rfl))
    go_simp
    refine wpAny_ready (rs := [1]) (by kernel_rfl) (by simp) ?_
    refine AllReady.cons rfl (fun K hK => ?_) ?_
    · go_simp
      refine hK _ _ ?_
      clear hK K
      refine wpAny_ready (rs := [3]) (by kernel_rfl) (by simp) ?_
      refine AllReady.cons rfl (fun K hK => ?_) ?_
      · go_simp
        go_wp2_with fail
        refine (rExtend_any s a len cap zs _ HD.out (by omega)).mono ?_
        rintro e W5 ⟨rfl, rfl⟩
        rw [← HX.out]
        go_wp2_with fail
        refine wpAny_take (i := 9) (v := ?v13) rfl (by kernel_rfl) (by kernel_rfl) (by kernel_rfl) (fun _ _ _ h => h) (Or.inl ⟨by rfl, ?h13⟩) ?_
        case h13 => (intro w; go_simp; try (with_reducible rfl))
        go_simp
        refine wpAny_ready (rs := [10]) (by kernel_rfl) (by simp) ?_
        refine AllReady.cons rfl (fun K hK => ?_) ?_
        · go_simp
          refine hK _ _ ?_
          clear hK K
          refine wpAny_take (i := 11) (v := ?v14) rfl (by kernel_rfl) (by kernel_rfl) (by kernel_rfl) (fun _ _ _ h => h) (Or.inl ⟨by rfl, ?h14⟩) ?_
          case h14 => (intro w; go_simp; try (with_reducible rfl))
          go_simp
          refine wpAny_done (by kernel_rfl) ?_ _
          go_wp2_with fail
          rw [WE.out]
          refine bodyPost_ret (v := .tuple #[.agg #[.int .u32 (toI X), .int .i64 ((n + len : Nat) : Int)], .int .i64 0]) ?_ rfl ⟨rfl, (two_below w _ _).drew⟩
          rw [results_cell_tmp rfl]
          simp [asAddr, Result.andThen]
          rw [load2 (two_blk_drew w _ _ _)]
        exact AllReady.nil
      exact AllReady.nil
    exact AllReady.nil
  exact AllReady.nil
theorem three_below (w : World) (o p q : Obj) : Below w.heap.size w (((w.alloc o).alloc p).alloc q) := (two_below w o p).alloc (by simp; omega) _
theorem three_blk (w : World) (o p : Obj) (x y : Value) : Lm.Blk (((w.alloc o).alloc p).alloc (.cells #[x, y] 52)) (w.heap.size + 2) 52 #[x, y] := by
  have := Lm.Blk.new ((w.alloc o).alloc p) 52 #[x, y]
  simpa using this
theorem rjoin_big (s s2 : BitVec 32) (n m : Nat) (w : World) (hn : n ≤ 9007199254740992) (hm : m ≤ 9007199254740992) (hs : ¬ n + m ≤ 9007199254740992) :
    Calls Tryd.prog 38 #[.agg #[.int .u32 (toI s), .int .i64 n], .agg #[.int .u32 (toI s2), .int .i64 m]] w fun e w' => e = .returned (.tuple #[.agg #[.int .u32 (toI s), .int .i64 n], .int .i64 3]) ∧ Below w.heap.size w w' := by
  have hI : 9007199254740992 - (n : Int) < (m : Int) := by omega
  go_enter Tryd.func38, Tryd.ntmps38
  go_wp2_with fail
  refine bodyPost_ret (v := .tuple #[.agg #[.int .u32 (toI s), .int .i64 n], .int .i64 3]) ?_ rfl ⟨rfl, three_below w _ _ _⟩
  rw [results_cell_tmp rfl]
  simp [asAddr, Result.andThen]
  rw [load2 (three_blk w _ _ _ _)]
set_option maxHeartbeats 2000000 in
theorem rjoin_ok (s s2 : BitVec 32) (n m : Nat) (w : World) (hs : n + m ≤ 9007199254740992) :
    Calls Tryd.prog 38 #[.agg #[.int .u32 (toI s), .int .i64 n], .agg #[.int .u32 (toI s2), .int .i64 m]] w fun e w' => e = .returned (.tuple #[.agg #[.int .u32 (toI (shiftZ (8 * m) s ^^^ s2)), .int .i64 ((n + m : Nat) : Int)], .int .i64 0]) ∧ Below w.heap.size w w' := by
  have hI : ¬ 9007199254740992 - (n : Int) < (m : Int) := by omega
  obtain ⟨X, HX⟩ : ∃ X, Hid (X = shiftZ (8 * m) s ^^^ s2) := ⟨_, rfl⟩
  rw [← HX.out]
  have HB := hid (three_below w (.cells #[.int .u32 (toI s), .int .i64 n] 52) (.cells #[.int .u32 (toI s2), .int .i64 m] 52) (.cells #[.int .u32 0, .int .i64 0] 52))
  have c0 : (((w.alloc (.cells #[.int .u32 (toI s), .int .i64 n] 52)).alloc (.cells #[.int .u32 (toI s2), .int .i64 m] 52)).alloc (.cells #[.int .u32 0, .int .i64 0] 52)).cell? ⟨w.heap.size, 1, none⟩ = some (.int .i64 n) := by simp [go_sem]
  have c1 : (((w.alloc (.cells #[.int .u32 (toI s), .int .i64 n] 52)).alloc (.cells #[.int .u32 (toI s2), .int .i64 m] 52)).alloc (.cells #[.int .u32 0, .int .i64 0] 52)).cell? ⟨w.heap.size + 1, 1, none⟩ = some (.int .i64 m) := by simp [go_sem]
  have KB := hid (three_blk w (.cells #[.int .u32 (toI s), .int .i64 n] 52) (.cells #[.int .u32 (toI s2), .int .i64 m] 52) (.int .u32 0) (.int .i64 0))
  have C0 := hid c0
  have C1 := hid c1
  clear c0 c1
  go_enter Tryd.func38, Tryd.ntmps38
  go_wp2_with fail
  refine (rCombine_any s s2 m _ (by omega)).mono ?_
  rintro e W5 ⟨rfl, b5⟩
  rw [← HX.out]
  have d0 := cell_later b5 C0.out
  have d1 := cell_later b5 C1.out
  have K5 := hid (KB.out.later b5)
  have B5 := hid (HB.out.trans (b5.mono HB.out.size))
  have e0 := K5.out.cell 0
  have e1 := K5.out.cell 1
  have f0 := K5.out.fz 0
  have f1 := K5.out.fz 1
  clear b5 KB HB C0 C1
  go_wp2_with fail
  have K7 : Lm.Blk ((W5.setCell ⟨w.heap.size + 1 + 1, 0, none⟩ (.int .u32 (toI X))).setCell ⟨w.heap.size + 1 + 1, 1, none⟩ (.int .i64 ((n : Int) + m))) (w.heap.size + 1 + 1) 52 #[.int .u32 (toI X), .int .i64 ((n : Int) + m)] := (K5.out.set 0 _).set 1 _
  have b6 : Below w.heap.size w (W5.setCell ⟨w.heap.size + 1 + 1, 0, none⟩ (.int .u32 (toI X))) := B5.out.grown (grown_set _ _ _ _) B5.out.size (by intro a ha; simp at ha; omega)
  have b7 : Below w.heap.size w ((W5.setCell ⟨w.heap.size + 1 + 1, 0, none⟩ (.int .u32 (toI X))).setCell ⟨w.heap.size + 1 + 1, 1, none⟩ (.int .i64 ((n : Int) + m))) := b6.grown (grown_set _ _ _ _) b6.size (by intro a ha; simp at ha; omega)
  refine bodyPost_ret (v := .tuple #[.agg #[.int .u32 (toI X), .int .i64 ((n + m : Nat) : Int)], .int .i64 0]) ?_ rfl ⟨rfl, b7⟩
  rw [results_cell_tmp rfl]
  simp [asAddr, Result.andThen]
  rw [load2 K7]
end Go.Proofs.YtkgmdhldongloaaDoor.Rs
