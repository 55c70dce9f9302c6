/- The disk's small calls: New, find, refuses, SetQuota, Refuse, Quota, Refused. -/
import Derived.Test.YtgffojafdjcdoaaDk
import Derived.Test.YtgffojafdjcdoaaNb
import Derived.Laws.StructEq
namespace Go.Proofs.Ytgffojafdjcdoaa.Df
open Go.ChangeShapes Go.WideShapes Go.ChangeAt Go.RowKit Go.Maps
open Go.Proofs.Ytgffojafdjcdoaa.By
open Go.Proofs.Ytgffojafdjcdoaa.Ln
open Go.Proofs.Ytgffojafdjcdoaa.Mp
open Go.Proofs.Ytgffojafdjcdoaa.Dk
set_option linter.unusedVariables false
set_option linter.unusedSimpArgs false

def isQ (q : Int) : Bool := decide (0 ≤ q) && decide (q ≤ 268435456)
theorem isquota_any (q : Int) (w : World) : Calls Try.prog 29 #[.int .i64 q] w fun e w' => e = .returned (.bool (isQ q)) ∧ w' = w := by
  unfold isQ
  by_cases h : 0 ≤ q
  · by_cases h2 : q ≤ 268435456
    · go_enter Try.func29, Try.ntmps29
      go_wp2
      go_ret
      exact ⟨by simp [h, h2], rfl⟩
    · go_enter Try.func29, Try.ntmps29
      go_wp2
      go_ret
      exact ⟨by simp [h, h2], rfl⟩
  · go_enter Try.func29, Try.ntmps29
    go_wp2
    go_ret
    exact ⟨by rw [show decide (0 ≤ q) = false from by simpa using h]; rfl, rfl⟩
def isN (s : ByteArray) : Bool := decide (1 ≤ s.size) && decide (s.size ≤ 64)
theorem size0 (s : ByteArray) : (s = ⟨#[]⟩) ↔ s.size = 0 := by
  constructor
  · intro h; rw [h]; rfl
  · intro h
    obtain ⟨d⟩ := s
    have : d.size = 0 := h
    rw [Array.size_eq_zero_iff.1 this]
theorem loop_len (s : ByteArray) : ∀ (n i : Nat) (r : List UInt8), s.size - i = n → (ByteArray.toList.loop s i r).length = r.length + n := by
  intro n
  induction n with
  | zero =>
    intro i r h
    unfold ByteArray.toList.loop
    rw [if_neg (by omega)]
    simp
  | succ n ih =>
    intro i r h
    unfold ByteArray.toList.loop
    rw [if_pos (by omega), ih (i + 1) _ (by omega)]
    simp
    omega
theorem toList_nil (s : ByteArray) : s.toList = [] ↔ s.size = 0 := by
  have h : s.toList.length = s.size := by
    unfold ByteArray.toList
    rw [loop_len s s.size 0 [] (by omega)]
    simp
  rw [← h, List.length_eq_zero_iff]
theorem isname_any (s : ByteArray) (hs : s.size ≤ 9223372036854775807) (w : World) : Calls Try.prog 55 #[.string s] w fun e w' => e = .returned (.bool (isN s)) ∧ w' = w := by
  unfold isN
  by_cases h : s.toList = []
  · have h0 := (toList_nil s).1 h
    go_enter Try.func55, Try.ntmps55
    go_wp2
    go_ret
    exact ⟨by simp [h0, h], rfl⟩
  · have h1 : 1 ≤ s.size := by
      have := mt (toList_nil s).2 h
      omega
    by_cases h2 : s.size ≤ 64
    · have h3 : (s.size : Int) ≤ 64 := by omega
      go_enter Try.func55, Try.ntmps55
      go_wp2
      go_ret
      exact ⟨by simp [h1, h2, h], rfl⟩
    · have h3 : ¬ (s.size : Int) ≤ 64 := by omega
      go_enter Try.func55, Try.ntmps55
      go_wp2
      go_ret
      exact ⟨by simp [h1, h2], rfl⟩
theorem isnone_any {base g b : Nat} {P : Nat → Prop} {S : St} (w : World) (H : Disk w base g b P S) : Calls Try.prog 47 #[.pointer (some ⟨g, 0, none⟩)] w fun e w' => e = .returned (.bool false) ∧ w' = w := by
  have c0 : w.cell? ⟨g, 0, none⟩ = some (.map (some b)) := H.cell 0
  have hE : Sem.run Try.prog (binOp .eql 46 (.map (some b)) (.map none)) w = .ok (.bool false) w := by kernel_rfl
  clear H
  go_enter Try.func47, Try.ntmps47
  go_wp2
  go_ret
  exact ⟨rfl, rfl⟩
theorem shape {w : World} {base : Nat} {f : Fl} (h : ownB w base f) : ∃ a c, f.sl = .slice a f.zs.length c := by
  rcases h.2 with ⟨e, h0⟩ | ⟨g, c, _, e, _⟩
  · exact ⟨none, 0, by rw [h0]; exact e⟩
  · exact ⟨_, c, e⟩
/-- What find answers. -/
def fnd (S : St) (s : ByteArray) : Fl × Int := if isN s = false then (⟨.slice none 0 0, [], 0⟩, 2) else match seek S.fs s.data.toList with | none => (⟨.slice none 0 0, [], 0⟩, 51) | some f => (f, 0)
theorem isN_size {s : ByteArray} (h : isN s = true) : 1 ≤ s.size ∧ s.size ≤ 64 := by
  unfold isN at h
  simpa using h
theorem fnd_ok {S : St} {s : ByteArray} (h : (fnd S s).2 = 0) : isN s = true ∧ seek S.fs s.data.toList = some (fnd S s).1 := by
  unfold fnd at h ⊢
  cases hn : isN s with
  | false => rw [if_pos hn] at h; simp at h
  | true =>
    rw [if_neg (by simp [hn])] at h ⊢
    cases hl : seek S.fs s.data.toList with
    | none => rw [hl] at h; simp at h
    | some f => exact ⟨rfl, rfl⟩
set_option maxRecDepth 10000 in
theorem find_any {base g b : Nat} {P : Nat → Prop} {S : St} (s : ByteArray) (hs : s.size ≤ 9223372036854775807) (w : World) (H : Disk w base g b P S) : Calls Try.prog 51 #[.pointer (some ⟨g, 0, none⟩), .string s] w fun e w' => e = .returned (.tuple #[(fnd S s).1.val, .int .i64 (fnd S s).2]) ∧ Below w.heap.size w w' := by
  have bb := box_below w (.cells #[.slice none 0 0, .int .i64 0] 83)
  have HD := hid (H.later bb)
  have BB := hid bb
  have hgl : g < w.heap.size := H.plow g H.pg
  have HG := hid hgl
  clear H bb hgl
  unfold fnd
  cases hn : isN s with
  | false =>
    have HI := hid (isname_any s hs)
    rw [hn] at HI
    rw [if_pos rfl]
    go_enter Try.func51, Try.ntmps51
    go_wp2_with fail
    refine (isnone_any _ HD.out).mono ?_
    rintro e w' ⟨rfl, rfl⟩
    go_wp2_with fail
    refine (HI.out _).mono ?_
    rintro e w' ⟨rfl, rfl⟩
    go_wp2_with fail
    (try simp only [Exit.inBlock, Exit.then])
    refine bodyPost_ret (v := .tuple #[.agg #[.slice none 0 0, .int .i64 0], .int .i64 2]) (by rw [results_cell_tmp rfl]; go_simp) rfl ?_
    exact ⟨rfl, BB.out⟩
  | true =>
    have HI := hid (isname_any s hs)
    rw [hn] at HI
    rw [if_neg (by simp)]
    have hs64 := (isN_size hn).2
    have hL := HD.out.run_look s hs64 true
    have c0 : (w.alloc (.cells #[.slice none 0 0, .int .i64 0] 83)).cell? ⟨g, 0, none⟩ = some (.map (some b)) := HD.out.cell 0
    simp only [if_true] at hL
    cases hl : seek S.fs s.data.toList with
    | none =>
      rw [hl] at hL
      simp only [Option.map_none, Option.getD_none, Option.isSome_none] at hL
      go_enter Try.func51, Try.ntmps51
      go_wp2_with fail
      refine (isnone_any _ HD.out).mono ?_
      rintro e w' ⟨rfl, rfl⟩
      go_wp2_with fail
      refine (HI.out _).mono ?_
      rintro e w' ⟨rfl, rfl⟩
      go_wp2_with fail
      (try simp only [Exit.inBlock, Exit.then])
      refine bodyPost_ret (v := .tuple #[.agg #[.slice none 0 0, .int .i64 0], .int .i64 51]) (by rw [results_cell_tmp rfl]; go_simp) rfl ?_
      exact ⟨rfl, BB.out.alloc BB.out.size _⟩
    | some f =>
      rw [hl] at hL
      obtain ⟨a, c, hsl⟩ := shape (HD.out.mem.row _ (seek_mem hl))
      simp only at hsl
      have hval : f.val = .agg #[.slice a f.zs.length c, .int .i64 f.k] := by rw [← hsl]; rfl
      simp only [Option.map_some, Option.getD_some, Option.isSome_some, hval] at hL
      simp only [hval]
      go_enter Try.func51, Try.ntmps51
      go_wp2_with fail
      refine (isnone_any _ HD.out).mono ?_
      rintro e w' ⟨rfl, rfl⟩
      go_wp2_with fail
      refine (HI.out _).mono ?_
      rintro e w' ⟨rfl, rfl⟩
      go_wp2_with fail
      (try simp only [Exit.inBlock, Exit.then])
      refine bodyPost_ret (v := .tuple #[.agg #[.slice a f.zs.length c, .int .i64 f.k], .int .i64 0]) (by rw [results_cell_tmp rfl]; go_simp) rfl ?_
      exact ⟨rfl, (box_below w _).alloc (box_below w _).size _⟩
theorem set_cells {W : World} {g : Nat} {cs : Array Value} {t : TypeId} {fz : Nat × Nat} (h : W.heap[g]? = some (.cells cs t fz)) (i : Nat) (v : Value) : (W.setCell ⟨g, i, none⟩ v).heap[g]? = some (.cells (cs.setIfInBounds i v) t fz) := by
  simp [World.setCell, Array.getElem?_modify, h]
/-- What is left of a plan behind one try, and whether it refuses that try. -/
def nxt (a c : Int) : Int × Int × Bool := if a = 0 ∧ c = 0 then (0, 0, false) else if 0 < a then (a - 1, c, false) else (0, c - 1, true)
set_option maxRecDepth 10000 in
theorem next_any (a c : Int) (ha : 0 ≤ a ∧ a ≤ 9223372036854775807) (hc : 0 ≤ c ∧ c ≤ 9223372036854775807) (w : World) : Calls Try.prog 63 #[.agg #[.int .i64 a, .int .i64 c]] w fun e w' => e = .returned (.tuple #[.agg #[.int .i64 (nxt a c).1, .int .i64 (nxt a c).2.1], .bool (nxt a c).2.2]) ∧ Below w.heap.size w w' := by
  unfold nxt
  have b2 : ∀ o1 o2, Below w.heap.size w ((w.alloc o1).alloc o2) := fun o1 o2 => (box_below w _).alloc (box_below w _).size _
  by_cases h : a = 0 ∧ c = 0
  · rw [if_pos h]
    obtain ⟨rfl, rfl⟩ := h
    go_enter Try.func63, Try.ntmps63
    go_wp2_with fail
    (try simp only [Exit.inBlock, Exit.then])
    refine bodyPost_ret (v := .tuple #[.agg #[.int .i64 0, .int .i64 0], .bool false]) (by rw [results_cell_tmp rfl]; go_simp) rfl ?_
    exact ⟨rfl, b2 _ _⟩
  · rw [if_neg h]
    have hE : ∀ W, Sem.run Try.prog (binOp .eql 48 (.agg #[.int .i64 a, .int .i64 c]) (.agg #[.int .i64 0, .int .i64 0])) W = .ok (.bool false) W := by
      intro W
      by_cases h0 : a = 0
      · have h2 : c ≠ 0 := fun e => h ⟨h0, e⟩
        go_simp
      · go_simp
    by_cases h1 : 0 < a
    · rw [if_pos h1]
      go_enter Try.func63, Try.ntmps63
      go_wp2_with fail
      (try simp only [Exit.inBlock, Exit.then])
      refine bodyPost_ret (v := .tuple #[.agg #[.int .i64 (a - 1), .int .i64 c], .bool false]) (by rw [results_cell_tmp rfl]; go_simp) rfl ?_
      exact ⟨rfl, b2 _ _⟩
    · rw [if_neg h1]
      have h3 : a = 0 := by omega
      have h4 : 0 < c := by
        have : c ≠ 0 := fun e => h ⟨h3, e⟩
        omega
      go_enter Try.func63, Try.ntmps63
      go_wp2_with fail
      (try simp only [Exit.inBlock, Exit.then])
      refine bodyPost_ret (v := .tuple #[.agg #[.int .i64 0, .int .i64 (c - 1)], .bool true]) (by rw [results_cell_tmp rfl]; go_simp) rfl ?_
      exact ⟨rfl, b2 _ _⟩
end Go.Proofs.Ytgffojafdjcdoaa.Df
