/- The document's Valid, covers, Cover, All. -/
import Derived.Test.YtfmpdalabgfigaaDoorCv
import Derived.Test.YtfmpdalabgfigaaDoorCu
namespace Go.Proofs.YtfmpdalabgfigaaDoor.Rf
open Go.ChangeShapes Go.WideShapes Go.ChangeAt Go.RowKit Go.Shelf
open Go.Proofs.YtfmpdalabgfigaaDoor.Lx
open Go.Proofs.YtfmpdalabgfigaaDoor.Tm
open Go.Proofs.YtfmpdalabgfigaaDoor.Mm
open Go.Proofs.YtfmpdalabgfigaaDoor.Rw
open Go.Proofs.YtfmpdalabgfigaaDoor.Cv
open Go.Proofs.YtfmpdalabgfigaaDoor.Cu
set_option linter.unusedVariables false
set_option linter.unusedSimpArgs false
attribute [local go_sem] leq_s gtr_s geq_s

set_option maxHeartbeats 1000000 in
theorem rvalid_any (b e : ByteArray) (s : Int) (w : World) :
    Calls Tryd.prog 8 #[.agg #[.string b, .string e, .int .u64 s]] w fun r w' => r = .returned (.bool (vd ⟨b, e, s⟩)) ∧ w' = w.alloc (.cells #[.string b, .string e, .int .u64 s] 27) := by
  obtain ⟨R, hR⟩ : ∃ R, R = vd ⟨b, e, s⟩ := ⟨_, rfl⟩
  rw [← hR]
  replace hR : Hid (R = vd ⟨b, e, s⟩) := hR
  by_cases h1 : 1 ≤ (b.size : Int)
  · by_cases h2 : (b.size : Int) ≤ 1024
    · by_cases h3 : (e.size : Int) ≤ 1025
      · cases h4 : Op.bytesLess b.toList e.toList with
        | true =>
          by_cases h5 : s ≤ 72057594037927935
          · have E : Hid (true = R) := by show _ = _; rw [hR.out]; unfold vd lt; simp only [h1, h2, h3, h4, h5, decide_true, Bool.and_self]
            go_enter Tryd.func8, Tryd.ntmps8
            go_wp2
            go_ret
            exact ⟨ret_bool E.out, rfl⟩
          · have E : Hid (false = R) := by show _ = _; rw [hR.out]; unfold vd lt; simp only [h5, decide_false, Bool.and_false]
            go_enter Tryd.func8, Tryd.ntmps8
            go_wp2
            go_ret
            exact ⟨ret_bool E.out, rfl⟩
        | false =>
          have E : Hid (false = R) := by show _ = _; rw [hR.out]; unfold vd lt; simp only [h4, Bool.and_false, Bool.false_and]
          go_enter Tryd.func8, Tryd.ntmps8
          go_wp2
          go_ret
          exact ⟨ret_bool E.out, rfl⟩
      · have E : Hid (false = R) := by show _ = _; rw [hR.out]; unfold vd lt; simp only [h3, decide_false, Bool.and_false, Bool.false_and]
        go_enter Tryd.func8, Tryd.ntmps8
        go_wp2
        go_ret
        exact ⟨ret_bool E.out, rfl⟩
    · have E : Hid (false = R) := by show _ = _; rw [hR.out]; unfold vd lt; simp only [h2, decide_false, Bool.and_false, Bool.false_and]
      go_enter Tryd.func8, Tryd.ntmps8
      go_wp2
      go_ret
      exact ⟨ret_bool E.out, rfl⟩
  · have E : Hid (false = R) := by show _ = _; rw [hR.out]; unfold vd lt; simp only [h1, decide_false, Bool.false_and]
    go_enter Tryd.func8, Tryd.ntmps8
    go_wp2
    go_ret
    exact ⟨ret_bool E.out, rfl⟩
/-- It covers a key. -/
def cvr (k : ByteArray) (x : T) : Bool := !(lt k x.b) && lt k x.e
theorem rcovers_any (b e : ByteArray) (s : Int) (k : ByteArray) (w : World) :
    Calls Tryd.prog 28 #[.agg #[.string b, .string e, .int .u64 s], .string k] w fun r w' => r = .returned (.bool (cvr k ⟨b, e, s⟩)) ∧ w' = w.alloc (.cells #[.string b, .string e, .int .u64 s] 27) := by
  unfold cvr lt
  dsimp only
  cases h1 : Op.bytesLess k.toList b.toList with
  | true =>
    go_enter Tryd.func28, Tryd.ntmps28
    go_wp2
    go_ret
    exact ⟨rfl, rfl⟩
  | false =>
    go_enter Tryd.func28, Tryd.ntmps28
    go_wp2
    go_ret
    exact ⟨rfl, rfl⟩
/-- The slice's element at a place. -/
theorem here {w : World} {a : Option Addr} {len cap : Nat} {xs : List T} (H : Tbs w a len cap xs) {k : Nat} (hk : k < len) : ∃ b o, a = some ⟨b, o, none⟩ ∧ At3 w b (o + k * 3) (xs.getD k zt) := by
  cases a with
  | none => have := H.2.2.1 rfl; omega
  | some ad =>
    obtain ⟨b, o, p⟩ := ad
    obtain ⟨rfl, h⟩ := H.2.2.2.2 b o p rfl (by omega)
    exact ⟨b, o, rfl, h k hk⟩
theorem wpList_append_run {P : Program} {w w' : World} {ops : Array Oper} {rest : List Oper} {o : Oper} {a : Act} {Q : Exit → Act → World → Prop} (hg : o.guard = none) (s x : Operand) (t tx : TypeId) (hop : o.op = Op.call { callee := Callee.builtin Builtin.append, args := #[s, x], argTypes := #[t, tx] })
    (u v v' : Value) (hs : a.eval s = u) (hx : a.eval x = v) (hrun : (Builtin.append_ #[t, tx] o.type #[u, v]).run P w = .ok v' w') (hK : wpList P ops Q rest (a.put o.dst v') w') : wpList P ops Q (o :: rest) a w := by
  refine wpList_plain hg fun K' hK' => ?_
  unfold Oper.wp
  simp [execOp, hop, resolve, invoke, builtin, hs, hx, hrun, Result.andThen]
  exact hK' _ _ hK
/-- How the document's Cover goes on. -/
def rst (k : ByteArray) (q : Int) (r : Int × Bool) (x : T) : Int × Bool := if vd x = true ∧ hit k q x = true then (if x.s > r.1 then x.s else r.1, true) else r
def rcv (k : ByteArray) (q : Int) (xs : List T) : Int × Bool := xs.foldl (rst k q) (0, false)
theorem rcv_snoc (k : ByteArray) (q : Int) (xs : List T) (x : T) : rcv k q (xs ++ [x]) = rst k q (rcv k q xs) x := by
  unfold rcv; rw [List.foldl_append]; rfl
theorem rcv_fold (k : ByteArray) (q : Int) : ∀ (xs : List T) (r : Int × Bool), xs.foldl (rst k q) r = (xs.filter vd).foldl (stp k q) r
  | [], r => rfl
  | x :: xs, r => by
    rw [List.foldl_cons, rcv_fold k q xs, List.filter_cons]
    cases h : vd x with
    | true =>
      rw [if_pos rfl, List.foldl_cons]
      congr 1
      unfold rst stp
      simp [h]
    | false =>
      rw [if_neg (by simp)]
      congr 1
      unfold rst
      simp [h]
theorem rcv_cov (k : ByteArray) (q : Int) (xs : List T) : rcv k q xs = cov xs k q := rcv_fold k q xs (0, false)
/-- Where nothing was found the number is nought; numbers are not below it. -/
theorem rcv_zero (k : ByteArray) (q : Int) : ∀ (xs : List T) (r : Int × Bool), (∀ x ∈ xs, 0 ≤ x.s) → (r.2 = false → r.1 = 0) → ((xs.foldl (rst k q) r).2 = false → (xs.foldl (rst k q) r).1 = 0)
  | [], r, _, h => h
  | x :: xs, r, hs, h => by
    rw [List.foldl_cons]
    refine rcv_zero k q xs _ (fun y hy => hs y (by simp [hy])) ?_
    unfold rst
    split
    · intro e; cases e
    · exact h
theorem at_box {w : World} {b o : Nat} {x : T} (h : At3 w b o x) (ob : Obj) : At3 (w.alloc ob) b o x := h.later (box_below _ _)
set_option maxRecDepth 100000 in
set_option maxHeartbeats 4000000 in
theorem rcover_any (a : Option Addr) (len cap : Nat) (xs : List T) (k : ByteArray) (q : Int) (w : World) (H : Tbs w a len cap xs) (hlen : len ≤ 140737488355328) :
    Calls Tryd.prog 15 #[.slice a len cap, .string k, .int .u64 q] w fun e w' => e = .returned (.tuple #[.int .u64 (cov xs k q).1, .bool (cov xs k q).2]) ∧ Below w.heap.size w w' := by
  obtain ⟨G, F, hR⟩ : ∃ G F, rcv k q xs = (G, F) := ⟨_, _, rfl⟩
  rw [← rcv_cov, hR]
  replace hR : Hid (rcv k q xs = (G, F)) := hR
  have hxl := H.1
  replace H := hid H
  go_enter Tryd.func15, Tryd.ntmps15
  go_wp2_with fail
  go_loopw [8, 9, 10] (fun bv ov iv wr => ∃ (n : Nat) (G : Int) (F : Bool), iv = .int .i64 (n : Int) ∧ bv = .int .u64 G ∧ ov = .bool F ∧ n ≤ len ∧ Hid (rcv k q (xs.take n) = (G, F)) ∧ Hid (Below w.heap.size w wr)) (fun _ _ iv _ => len - (intOf iv).toNat)
  case atStart => exact ⟨0, 0, false, rfl, rfl, rfl, by omega, rfl, Below.refl _ _⟩
  case round =>
    obtain ⟨n, G', F', rfl, rfl, rfl, hn, HE, HB⟩ := hrel
    by_cases hlt : n < len
    · have ik : (n : Int) < (len : Int) := by omega
      have HT := H.out.later HB.out
      have hcap := HT.2.1
      obtain ⟨b, o, rfl, hat⟩ := here HT hlt
      have HS : Hid (rcv k q (xs.take (n + 1)) = rst k q (G', F') (xs.getD n zt)) := by show _ = _; rw [take_snoc (by omega), rcv_snoc, HE.out]
      have H0 : Hid (F' = false → G' = 0) := by
        have := rcv_zero k q (xs.take n) (0, false) (fun x hx => (HT.2.2.2.1 x (List.mem_of_mem_take hx)).1.1) (fun _ => rfl)
        have e : (xs.take n).foldl (rst k q) (0, false) = (G', F') := HE.out
        rw [e] at this
        exact this
      have hx0 : 0 ≤ (xs.getD n zt).s := (HT.2.2.2.1 _ (get_mem (by omega))).1.1
      revert hat HS hx0
      generalize xs.getD n zt = x
      obtain ⟨xb, xe, x3⟩ := x
      intro hat HS hx0
      dsimp only at hx0
      obtain ⟨r0, r1, r2⟩ := hat
      dsimp only at r0 r1 r2
      have hat1 := at_box (x := ⟨xb, xe, x3⟩) ⟨r0, r1, r2⟩ (.cells #[.string xb, .string xe, .int .u64 x3] 27)
      have hat2 := at_box hat1 (.cells #[.string xb, .string xe, .int .u64 x3] 27)
      obtain ⟨s0, s1, s2⟩ := hat1
      obtain ⟨t0, t1, t2⟩ := hat2
      dsimp only at s0 s1 s2 t0 t1 t2
      have HV := hid (rvalid_any xb xe x3)
      have HCv := hid (rcovers_any xb xe x3 k)
      have hb1 := hid (HB.out.trans ((box_below wr (.cells #[.string xb, .string xe, .int .u64 x3] 27)).mono HB.out.size))
      have hb2 := hid (hb1.out.trans ((box_below _ (.cells #[.string xb, .string xe, .int .u64 x3] 27)).mono hb1.out.size))
      cases hv : vd ⟨xb, xe, x3⟩ with
      | false =>
        rw [hv] at HV
        have HS' : Hid (rcv k q (xs.take (n + 1)) = (G', F')) := by show _ = _; rw [HS.out]; unfold rst; rw [if_neg (by rw [hv]; simp)]
        clear HS hv
        go_wp2_with fail
        refine (HV.out _).mono ?_
        rintro e w4 ⟨rfl, rfl⟩
        go_wp2_with fail
        go_roundw
        case rel => exact ⟨n + 1, G', F', by go_num, rfl, rfl, by omega, HS', hb1⟩
        case measure => simp [intOf]; omega
      | true =>
        rw [hv] at HV
        cases hc : cvr k ⟨xb, xe, x3⟩ with
        | false =>
          rw [hc] at HCv
          have HS' : Hid (rcv k q (xs.take (n + 1)) = (G', F')) := by show _ = _; rw [HS.out]; unfold rst hit; unfold cvr at hc; rw [hc]; simp
          clear HS hv hc
          go_wp2_with fail
          refine (HV.out _).mono ?_
          rintro e w4 ⟨rfl, rfl⟩
          go_wp2_with fail
          refine (HCv.out _).mono ?_
          rintro e w4 ⟨rfl, rfl⟩
          go_wp2_with fail
          go_roundw
          case rel => exact ⟨n + 1, G', F', by go_num, rfl, rfl, by omega, HS', hb2⟩
          case measure => simp [intOf]; omega
        | true =>
          rw [hc] at HCv
          by_cases hq : x3 ≤ q
          · have HS1 : Hid (rcv k q (xs.take (n + 1)) = (if x3 > G' then x3 else G', true)) := by show _ = _; rw [HS.out]; unfold rst hit; unfold cvr at hc; rw [hc, hv]; simp [hq]
            clear HS hv hc
            cases F' with
            | false =>
              have hg := H0.out rfl
              have HS' : Hid (rcv k q (xs.take (n + 1)) = (x3, true)) := by show _ = _; rw [HS1.out, hg]; congr 1; split <;> omega
              clear hg
              go_wp2_with fail
              refine (HV.out _).mono ?_
              rintro e w4 ⟨rfl, rfl⟩
              go_wp2_with fail
              refine (HCv.out _).mono ?_
              rintro e w4 ⟨rfl, rfl⟩
              go_wp2_with fail
              go_roundw
              case rel => exact ⟨n + 1, x3, true, by go_num, rfl, rfl, by omega, HS', hb2⟩
              case measure => simp [intOf]; omega
            | true =>
              by_cases hg : x3 > G'
              · have HS' : Hid (rcv k q (xs.take (n + 1)) = (x3, true)) := by show _ = _; rw [HS1.out, if_pos hg]
                clear HS1
                go_wp2_with fail
                refine (HV.out _).mono ?_
                rintro e w4 ⟨rfl, rfl⟩
                go_wp2_with fail
                refine (HCv.out _).mono ?_
                rintro e w4 ⟨rfl, rfl⟩
                go_wp2_with fail
                go_roundw
                case rel => exact ⟨n + 1, x3, true, by go_num, rfl, rfl, by omega, HS', hb2⟩
                case measure => simp [intOf]; omega
              · have HS' : Hid (rcv k q (xs.take (n + 1)) = (G', true)) := by show _ = _; rw [HS1.out, if_neg hg]
                clear HS1
                go_wp2_with fail
                refine (HV.out _).mono ?_
                rintro e w4 ⟨rfl, rfl⟩
                go_wp2_with fail
                refine (HCv.out _).mono ?_
                rintro e w4 ⟨rfl, rfl⟩
                go_wp2_with fail
                go_roundw
                case rel => exact ⟨n + 1, G', true, by go_num, rfl, rfl, by omega, HS', hb2⟩
                case measure => simp [intOf]; omega
          · have HS' : Hid (rcv k q (xs.take (n + 1)) = (G', F')) := by show _ = _; rw [HS.out]; unfold rst hit; simp [hq]
            clear HS hv hc
            go_wp2_with fail
            refine (HV.out _).mono ?_
            rintro e w4 ⟨rfl, rfl⟩
            go_wp2_with fail
            refine (HCv.out _).mono ?_
            rintro e w4 ⟨rfl, rfl⟩
            go_wp2_with fail
            go_roundw
            case rel => exact ⟨n + 1, G', F', by go_num, rfl, rfl, by omega, HS', hb2⟩
            case measure => simp [intOf]; omega
    · have ik : ¬ (n : Int) < (len : Int) := by omega
      have HE' := HE.out
      rw [List.take_of_length_le (by omega), hR.out] at HE'
      obtain ⟨rfl, rfl⟩ := Prod.mk.inj HE'
      clear HE'
      go_wp2_with fail
      go_ret2
      exact ⟨rfl, HB.out⟩
end Go.Proofs.YtfmpdalabgfigaaDoor.Rf
