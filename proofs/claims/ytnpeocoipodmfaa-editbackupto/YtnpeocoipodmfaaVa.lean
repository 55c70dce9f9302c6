/- Edits that may be: Valid by its contract. -/
import Derived.Test.YtnpeocoipodmfaaMg
import Derived.Test.YtnpeocoipodmfaaLx
import Derived.BigQuiet
namespace Go.Proofs.Ytnpeocoipodmfaa.Va
open Go.ChangeShapes Go.WideShapes Go.ChangeAt Go.RowKit
open Go.Proofs.Ytnpeocoipodmfaa.Gr
open Go.Proofs.Ytnpeocoipodmfaa.Ev
open Go.Proofs.Ytnpeocoipodmfaa.Km
open Go.Proofs.Ytnpeocoipodmfaa.Mg (place_any)
open Go.Proofs.Ytnpeocoipodmfaa.Lx (lt)
set_option linter.unusedVariables false
set_option linter.unusedSimpArgs false

theorem get1 {α : Type} {E : El α} {w : World} {a : Option Addr} {n c : Nat} {xs : List α} (H : E.Sl w a n c xs) (i : Nat) (hi : i < n) : ∃ b o, a = some ⟨b, o, none⟩ ∧ ∀ j, j < n → E.At w b (o + j * E.k) (xs.getD j E.z) := by
  cases a with
  | none => have := (H.nil rfl).1; omega
  | some ad =>
    obtain ⟨b, o, p⟩ := ad
    obtain ⟨rfl, hat⟩ := H.cells b o p rfl (by omega)
    exact ⟨b, o, rfl, hat⟩
theorem below_grown {w W W' : World} {n : Nat} {row : Option Nat} (h : Below n w W) (hn : n ≤ W.heap.size) (g : W.grownBy W' row) (hr : ∀ j, row = some j → n ≤ j) : Below n w W' :=
  ⟨g.os.trans h.os, g.tape.trans h.tape, g.output.trans h.output, Nat.le_trans h.size g.size, fun j hj => (g.block j (by omega) (fun e => by have := hr j e.symm; omega)).trans (h.block j hj)⟩
/-- v is from a to m. -/
def fr (a v m : Int) : Bool := decide (a ≤ v) && decide (v ≤ m)
theorem isFrom_any (a v m : Int) (w : World) : Calls Try.prog 28 #[.int .i64 a, .int .i64 v, .int .i64 m] w fun e w' => e = .returned (.bool (fr a v m)) ∧ w' = w := by
  unfold fr
  by_cases h : a ≤ v
  · rw [decide_eq_true h]
    go_enter Try.func28, Try.ntmps28
    go_wp2_with fail
    go_ret
    simp
  · rw [decide_eq_false h]
    go_enter Try.func28, Try.ntmps28
    go_wp2_with fail
    go_ret
    simp
/-- A place may be. -/
def plc (p : Pl) : Bool := fr 0 p.l 6 && fr 1 p.n 2147483647
theorem isPlace_any (l n : Int) (w : World) : Calls Try.prog 52 #[.agg #[.int .i64 l, .int .i64 n]] w fun e w' => e = .returned (.bool (plc ⟨l, n⟩)) ∧ Below w.heap.size w w' := by
  unfold plc
  dsimp only
  have hB := hid (box_below w (.cells #[.int .i64 l, .int .i64 n] 57))
  have c1 := hid (isFrom_any 0 l 6)
  have c2 := hid (isFrom_any 1 n 2147483647)
  generalize fr 0 l 6 = b1 at *
  generalize fr 1 n 2147483647 = b2 at *
  cases b1
  all_goals
    go_enter Try.func52, Try.ntmps52
    go_wp2_with (first | (go_at_call 28; with_reducible refine (c1.out _).mono ?_; rintro e w' ⟨rfl, rfl⟩) | (go_at_call 28; with_reducible refine (c2.out _).mono ?_; rintro e w' ⟨rfl, rfl⟩))
    go_ret
    exact ⟨rfl, hB.out⟩
/-- A file may be, but for its Number. -/
def fil (f : Fi) : Bool := fr 1 f.z 268435456 && (fr 1 f.a.size 1024 && (lt f.a f.b && (decide ((f.b.size : Int) ≤ 1025) && (decide (1 ≤ f.lo) && (decide (f.lo ≤ f.hi) && decide (f.hi ≤ 72057594037927935))))))
theorem ch6 : ∀ b1 b2 b3 b4 b5 b6 : Bool, (b1 = false) ∨ (b1 = true ∧ b2 = false) ∨ (b1 = true ∧ b2 = true ∧ b3 = false) ∨ (b1 = true ∧ b2 = true ∧ b3 = true ∧ b4 = false) ∨ (b1 = true ∧ b2 = true ∧ b3 = true ∧ b4 = true ∧ b5 = false) ∨ (b1 = true ∧ b2 = true ∧ b3 = true ∧ b4 = true ∧ b5 = true ∧ b6 = false) ∨ (b1 = true ∧ b2 = true ∧ b3 = true ∧ b4 = true ∧ b5 = true ∧ b6 = true) := by
  intro b1 b2 b3 b4 b5 b6
  cases b1 <;> cases b2 <;> cases b3 <;> cases b4 <;> cases b5 <;> cases b6 <;> simp
set_option maxHeartbeats 1000000 in
theorem isFile_any (n z : Int) (a b : ByteArray) (lo hi : Int) (ha : a.size ≤ maxLen) (hb : b.size ≤ maxLen) (w : World) : Calls Try.prog 53 #[.agg #[.int .i64 n, .int .i64 z, .string a, .string b, .int .u64 lo, .int .u64 hi]] w fun e w' => e = .returned (.bool (fil ⟨n, z, a, b, lo, hi⟩)) ∧ Below w.heap.size w w' := by
  unfold fil
  dsimp only
  replace ha : a.size ≤ 9223372036854775807 := by unfold maxLen at ha; exact Nat.le_trans ha (by decide)
  replace hb : b.size ≤ 9223372036854775807 := by unfold maxLen at hb; exact Nat.le_trans hb (by decide)
  have hB := hid (box_below w (.cells #[.int .i64 n, .int .i64 z, .string a, .string b, .int .u64 lo, .int .u64 hi] 51))
  have gs := Lx.gtr_s 9 b a
  change binOp .gtr 9 (.string b) (.string a) = pure (.bool (lt a b)) at gs
  generalize hb2 : fr 1 z 268435456 = b2
  generalize hb3 : fr 1 (a.size : Int) 1024 = b3
  generalize hb4 : lt a b = b4 at *
  generalize hb5 : decide ((b.size : Int) ≤ 1025) = b5
  generalize hb6 : decide (1 ≤ lo) = b6
  generalize hb7 : decide (lo ≤ hi) = b7
  have c2 := hid (isFrom_any 1 z 268435456)
  have c3 := hid (isFrom_any 1 (a.size : Int) 1024)
  rw [hb2] at c2
  rw [hb3] at c3
  clear hb2 hb3 hb4
  rcases ch6 b2 b3 b4 b5 b6 b7 with rfl | ⟨rfl, rfl⟩ | ⟨rfl, rfl, rfl⟩ | ⟨rfl, rfl, rfl, rfl⟩ | ⟨rfl, rfl, rfl, rfl, rfl⟩ | ⟨rfl, rfl, rfl, rfl, rfl, rfl⟩ | ⟨rfl, rfl, rfl, rfl, rfl, rfl⟩
  all_goals
    go_enter Try.func53, Try.ntmps53
    go_wp2_with (first | (go_at_call 28; with_reducible refine (c2.out _).mono ?_; rintro e w' ⟨rfl, rfl⟩) | (go_at_call 28; with_reducible refine (c3.out _).mono ?_; rintro e w' ⟨rfl, rfl⟩))
    go_ret
    exact ⟨rfl, hB.out⟩
theorem ch4 : ∀ b1 b2 b3 b4 : Bool, (b1 = false) ∨ (b1 = true ∧ b2 = false) ∨ (b1 = true ∧ b2 = true ∧ b3 = false) ∨ (b1 = true ∧ b2 = true ∧ b3 = true ∧ b4 = false) ∨ (b1 = true ∧ b2 = true ∧ b3 = true ∧ b4 = true) := by
  intro b1 b2 b3 b4
  cases b1 <;> cases b2 <;> cases b3 <;> cases b4 <;> simp
/-! ### Unlike ones, by a set -/
def insAll {κ : Type} [DecidableEq κ] (xs : List κ) : List κ := xs.foldl ins []
theorem insAll_snoc {κ : Type} [DecidableEq κ] (xs : List κ) (x : κ) : insAll (xs ++ [x]) = ins (insAll xs) x := by unfold insAll; rw [List.foldl_append]; rfl
theorem ins_nodup {κ : Type} [DecidableEq κ] {ks : List κ} (h : ks.Nodup) (k : κ) : (ins ks k).Nodup := by
  unfold ins
  split
  · exact h
  · rename_i hk
    rw [List.nodup_append]
    exact ⟨h, by simp, fun a ha b hb e => by rw [List.mem_singleton] at hb; subst hb e; exact hk ha⟩
theorem insFrom_spec {κ : Type} [DecidableEq κ] : ∀ (xs ks : List κ), ks.Nodup → (xs.foldl ins ks).length ≤ ks.length + xs.length ∧ ((xs.foldl ins ks).length = ks.length + xs.length ↔ (ks ++ xs).Nodup) ∧ (∀ x, x ∈ xs.foldl ins ks ↔ x ∈ ks ∨ x ∈ xs)
  | [], ks, h => by simp [h]
  | x :: r, ks, h => by
    obtain ⟨h1, h2, h3⟩ := insFrom_spec r (ins ks x) (ins_nodup h x)
    show (r.foldl ins (ins ks x)).length ≤ _ ∧ ((r.foldl ins (ins ks x)).length = _ ↔ _) ∧ (∀ y, y ∈ r.foldl ins (ins ks x) ↔ _)
    by_cases hx : x ∈ ks
    · have e : ins ks x = ks := by unfold ins; rw [if_pos hx]
      rw [e] at h1 h2 h3 ⊢
      refine ⟨by simp; omega, ?_, fun y => ?_⟩
      · constructor
        · intro h'; simp at h'; omega
        · intro h'
          exact absurd rfl ((List.nodup_append.1 h').2.2 x hx x (by simp))
      · rw [h3, List.mem_cons]
        constructor
        · rintro (h' | h')
          · exact .inl h'
          · exact .inr (.inr h')
        · rintro (h' | rfl | h')
          · exact .inl h'
          · exact .inl hx
          · exact .inr h'
    · have e : ins ks x = ks ++ [x] := by unfold ins; rw [if_neg hx]
      rw [e] at h1 h2 h3 ⊢
      rw [List.append_assoc] at h2
      simp only [List.length_append, List.length_cons, List.length_nil] at h1 h2 ⊢
      refine ⟨by omega, ?_, fun y => ?_⟩
      · rw [← show ks ++ ([x] ++ r) = ks ++ x :: r from rfl, ← h2]
        omega
      · rw [h3, List.mem_append, List.mem_singleton, List.mem_cons]
        constructor
        · rintro ((h' | h') | h')
          · exact .inl h'
          · exact .inr (.inl h')
          · exact .inr (.inr h')
        · rintro (h' | h' | h')
          · exact .inl (.inl h')
          · exact .inl (.inr h')
          · exact .inr h'
theorem insAll_len {κ : Type} [DecidableEq κ] (xs : List κ) : (insAll xs).length ≤ xs.length ∧ ((insAll xs).length = xs.length ↔ xs.Nodup) := by
  obtain ⟨h1, h2, _⟩ := insFrom_spec xs [] List.nodup_nil
  simp only [List.length_nil, Nat.zero_add, List.nil_append] at h1 h2
  exact ⟨h1, h2⟩
/-- Places that may go. -/
def goOk (ps : List Pl) : Bool := ps.all plc && decide ps.Nodup
/-- Files that may come. -/
def coOk (co : List Ad) : Bool := co.all (fun x => plc x.pl && fil x.f) && decide (co.map fun x => x.f.n).Nodup
/-- An edit may be. -/
def vE (e : Ed) : Bool := fr 0 e.log 2147483647 && (fr 0 e.nx 2147483647 && (decide (e.sq ≤ 72057594037927935) && (goOk e.go && coOk e.co)))
theorem all_no {α : Type} {f : α → Bool} {xs : List α} {x : α} (h : x ∈ xs) (hf : f x = false) : xs.all f = false := by
  cases hc : xs.all f with
  | false => rfl
  | true => rw [List.all_eq_true.1 hc x h] at hf; cases hf
theorem run_len_p {w : World} {b : Nat} {ks : List Pl} (h : kP.Mp w b ks) (ty : TypeId) : (Builtin.len_ #[87] ty #[.map (some b)]).run Try.prog w = .ok (.int .i64 ks.length) w := h.len ty
theorem run_len_n {w : World} {b : Nat} {ks : List Int} (h : kN.Mp w b ks) (ty : TypeId) : (Builtin.len_ #[99] ty #[.map (some b)]).run Try.prog w = .ok (.int .i64 ks.length) w := h.len ty
set_option maxRecDepth 20000 in
set_option maxHeartbeats 1000000 in
theorem mayGo_any (pa : Option Addr) (pn pc : Nat) (ps : List Pl) (w : World) (HP : ePl.Sl w pa pn pc ps) (hp8 : pn ≤ 1099511627776) :
    Calls Try.prog 29 #[.slice pa pn pc] w fun e w' => e = .returned (.bool (goOk ps)) ∧ Below w.heap.size w w' := by
  have HPl : Hid (∀ W, Below w.heap.size w W → ePl.Sl W pa pn pc ps) := fun W b => HP.later b
  have hpl := hid HP.n
  have hpc := HP.c
  obtain ⟨B, hB⟩ : ∃ B, B = goOk ps := ⟨_, rfl⟩
  rw [← hB]
  obtain ⟨b, hb⟩ : ∃ b, b = w.heap.size := ⟨_, rfl⟩
  obtain ⟨W0, hW0⟩ : ∃ W, W = w.alloc (.map #[] 0) := ⟨_, rfl⟩
  have M0 : kP.Mp W0 b (insAll []) := by rw [hW0, hb]; exact Ks.Mp.made kP w
  have b0 : Below w.heap.size w W0 := by rw [hW0]; exact box_below _ _
  have mk : Sem.run Try.prog (Instr.makeMap 87 none) w = .ok (.map (some b)) W0 := by rw [hW0, hb]; kernel_rfl
  replace M0 := hid M0
  replace b0 := hid b0
  replace hb := hid hb
  replace hB := hid hB
  clear HP hW0
  go_enter Try.func29, Try.ntmps29
  go_wp2_with fail
  clear mk
  go_loopw [9] (fun jj wr => ∃ j : Nat, jj = .int .i64 j ∧ j ≤ pn ∧ Hid (∀ p ∈ ps.take j, plc p = true) ∧ Hid (kP.Mp wr b (insAll (ps.take j))) ∧ Hid (Below w.heap.size w wr)) (fun jj _ => pn - (intOf jj).toNat)
  case atStart => exact ⟨0, rfl, by omega, by simp [Hid], M0, b0⟩
  case round =>
    clear M0 b0
    obtain ⟨j, rfl, hj, hin, M, bw⟩ := hrel
    by_cases hjl : j < pn
    · obtain ⟨pb, po, rfl, hat⟩ := get1 (HPl.out wr bw.out) j hjl
      obtain ⟨e1, e2⟩ := pl_at (hat j hjl)
      have hjs : j < ps.length := by rw [hpl.out]; exact hjl
      have htk : Hid (ps.take (j + 1) = ps.take j ++ [ps.getD j zp]) := El.take_snoc (E := ePl) hjs
      have hmem : Hid (ps.getD j zp ∈ ps) := El.get_mem (E := ePl) hjs
      rw [show ePl.z = zp from rfl] at e1 e2
      simp only [show ePl.k = 2 from rfl] at e1 e2
      clear hat hjs
      generalize ps.getD j zp = y at *
      have hno : Hid (plc y = false → B = false) := by
        intro h
        rw [hB.out]; unfold goOk
        rw [all_no hmem.out h]; rfl
      have hyes : Hid (plc y = true → ∀ p ∈ ps.take (j + 1), plc p = true) := by
        intro h p hp
        rw [htk.out, List.mem_append, List.mem_singleton] at hp
        rcases hp with hp | rfl
        · exact hin.out p hp
        · exact h
      have hins : Hid (insAll (ps.take (j + 1)) = ins (insAll (ps.take j)) y) := by show _ = _; rw [htk.out, insAll_snoc]
      obtain ⟨yl, yn⟩ := y
      dsimp only at e1 e2
      have ci := hid (isPlace_any yl yn)
      have kb := hid (new_at wr (.cells #[.int .i64 yl, .int .i64 yn] 57))
      have q0 := cell_of kb.out 0 _ rfl
      have q1 := cell_of kb.out 1 _ rfl
      have bb := hid (box_below wr (.cells #[.int .i64 yl, .int .i64 yn] 57))
      have jk0 : (j : Int) < (pn : Int) := by omega
      have jo0 : (0 : Int) ≤ (j : Int) := by omega
      clear htk hmem hin
      generalize hpb : plc ⟨yl, yn⟩ = PB at *
      cases PB with
      | false =>
        have hBf := hid (hno.out rfl)
        clear hpb hyes hno
        go_wp2_with (first | (go_at_call 52; refine (ci.out _).mono ?_; rintro e w2 ⟨rfl, b2⟩; replace b2 := hid (Below.up bw.out (Below.up bb.out b2)); clear q0 q1))
        go_ret
        exact ⟨ret_bool hBf.out.symm, b2.out⟩
      | true =>
        have hy := hid (hyes.out rfl)
        clear hpb hyes hno
        go_wp2_with (first | (go_at_call 52; refine (ci.out _).mono ?_; rintro e w2 ⟨rfl, b2⟩; have k2 := (b2.block _ (blk_lt kb.out)).trans kb.out; clear q0 q1; have q0 := cell_of k2 0 _ rfl; have q1 := cell_of k2 1 _ rfl; obtain ⟨W', r', M', gr'⟩ := ((M.out.later bb.out).later b2).put ⟨yl, yn⟩; have bw' : Hid (Below w.heap.size w W') := below_grown (Below.up bw.out (Below.up bb.out b2)) (Below.up bw.out (Below.up bb.out b2)).size gr' (fun k hk => by have := hb.out; cases hk; omega); simp only [show kP.mt = 87 from rfl, show kP.kv = kvP from rfl, kvP] at r'; rw [← hins.out] at M'; replace M' := hid M'; clear gr' b2 k2))
        go_roundw
        case rel => exact ⟨j + 1, by go_num, by omega, hy, M', bw'⟩
        case measure => simp [intOf]; omega
    · have hje : j = pn := by omega
      subst hje
      have hal : Hid (ps.all plc = true) := by
        show _ = _
        rw [List.all_eq_true]
        have := hin.out
        rwa [← hpl.out, List.take_length] at this
      have hlen := run_len_p (M.out) 
      have hBe : Hid (((insAll ps).length == j) = B) := by
        show _ = _
        rw [hB.out]; unfold goOk
        rw [hal.out, Bool.true_and]
        have h := (insAll_len ps).2
        rw [hpl.out] at h
        by_cases hn : ps.Nodup
        · rw [decide_eq_true hn, h.2 hn]; exact beq_self_eq_true _
        · rw [decide_eq_false hn, beq_eq_false_iff_ne]
          exact fun e => hn (h.1 e)
      have htk : Hid (ps.take j = ps) := by show _ = _; rw [← hpl.out, List.take_length]
      rw [htk.out] at hlen
      have hk8 : (insAll ps).length ≤ 1099511627776 := by
        have := (insAll_len ps).1
        rw [hpl.out] at this
        omega
      obtain ⟨kl, hkl⟩ : ∃ n, n = (insAll ps).length := ⟨_, rfl⟩
      rw [← hkl] at hBe hlen hk8
      replace hkl := hid hkl
      have hcmp : ((kl : Int) == (j : Int)) = (kl == j) := by
        by_cases e : kl = j
        · rw [e, beq_self_eq_true, beq_self_eq_true]
        · rw [beq_eq_false_iff_ne.2 (by omega), beq_eq_false_iff_ne.2 e]
      clear hin hal M htk
      go_wp2_with fail
      go_ret
      exact ⟨ret_bool (by first | (rw [← hBe.out]; done) | (rw [← hBe.out]; exact hcmp)), bw.out⟩
set_option maxRecDepth 20000 in
set_option maxHeartbeats 1000000 in
theorem mayCome_any (pa : Option Addr) (pn pc : Nat) (ps : List Ad) (w : World) (HP : eAd.Sl w pa pn pc ps) (hp8 : pn ≤ 1099511627776) :
    Calls Try.prog 30 #[.slice pa pn pc] w fun e w' => e = .returned (.bool (coOk ps)) ∧ Below w.heap.size w w' := by
  have HPl : Hid (∀ W, Below w.heap.size w W → eAd.Sl W pa pn pc ps) := fun W b => HP.later b
  have hpl := hid HP.n
  have hpc := HP.c
  obtain ⟨B, hB⟩ : ∃ B, B = coOk ps := ⟨_, rfl⟩
  rw [← hB]
  obtain ⟨b, hb⟩ : ∃ b, b = w.heap.size := ⟨_, rfl⟩
  obtain ⟨W0, hW0⟩ : ∃ W, W = w.alloc (.map #[] 0) := ⟨_, rfl⟩
  have M0 : kN.Mp W0 b (insAll []) := by rw [hW0, hb]; exact Ks.Mp.made kN w
  have b0 : Below w.heap.size w W0 := by rw [hW0]; exact box_below _ _
  have mk : Sem.run Try.prog (Instr.makeMap 99 none) w = .ok (.map (some b)) W0 := by rw [hW0, hb]; kernel_rfl
  replace M0 := hid M0
  replace b0 := hid b0
  replace hb := hid hb
  replace hB := hid hB
  clear HP hW0
  go_enter Try.func30, Try.ntmps30
  go_wp2_with fail
  clear mk
  go_loopw [9] (fun jj wr => ∃ j : Nat, jj = .int .i64 j ∧ j ≤ pn ∧ Hid (∀ p ∈ ps.take j, (plc p.pl && fil p.f) = true) ∧ Hid (kN.Mp wr b (insAll ((ps.take j).map fun x => x.f.n))) ∧ Hid (Below w.heap.size w wr)) (fun jj _ => pn - (intOf jj).toNat)
  case atStart => exact ⟨0, rfl, by omega, by simp [Hid], M0, b0⟩
  case round =>
    clear M0 b0
    obtain ⟨j, rfl, hj, hin, M, bw⟩ := hrel
    by_cases hjl : j < pn
    · obtain ⟨pb, po, rfl, hat⟩ := get1 (HPl.out wr bw.out) j hjl
      have hA := ad_at (hat j hjl)
      have hjs : j < ps.length := by rw [hpl.out]; exact hjl
      have htk : Hid (ps.take (j + 1) = ps.take j ++ [ps.getD j za]) := El.take_snoc (E := eAd) hjs
      have hyok : (ps.getD j za).ok := (HPl.out wr bw.out).ok _ (El.get_mem (E := eAd) hjs)
      have hmem : Hid (ps.getD j za ∈ ps) := El.get_mem (E := eAd) hjs
      rw [show eAd.z = za from rfl] at hA
      simp only [show eAd.k = 7 from rfl] at hA
      clear hat hjs
      generalize ps.getD j za = y at *
      have hno : Hid ((plc y.pl && fil y.f) = false → B = false) := by
        intro h
        rw [hB.out]; unfold coOk
        rw [all_no hmem.out h]; rfl
      have hyes : Hid ((plc y.pl && fil y.f) = true → ∀ p ∈ ps.take (j + 1), (plc p.pl && fil p.f) = true) := by
        intro h p hp
        rw [htk.out, List.mem_append, List.mem_singleton] at hp
        rcases hp with hp | rfl
        · exact hin.out p hp
        · exact h
      have hins : Hid (insAll ((ps.take (j + 1)).map fun x => x.f.n) = ins (insAll ((ps.take j).map fun x => x.f.n)) y.f.n) := by show _ = _; rw [htk.out, List.map_append]; exact insAll_snoc _ _
      obtain ⟨yl, yn, yz, ya, yb, ylo, yhi⟩ := y
      obtain ⟨e1, e2, e3, e4, e5, e6, e7⟩ := hA
      unfold Ad.pl at hno hyes
      dsimp only at e1 e2 e3 e4 e5 e6 e7 hno hyes hins
      have cpl := hid (fun W => place_any yl yn yz ya yb ylo yhi W)
      have ci := hid (isPlace_any yl yn)
      have cf := hid (isFile_any yn yz ya yb ylo yhi hyok.2.2.2.1 hyok.2.2.2.2.1)
      have kb0 := new_at wr (.cells #[.int .i64 yl, .int .i64 yn, .int .i64 yz, .string ya, .string yb, .int .u64 ylo, .int .u64 yhi] 60)
      have kb := hid kb0
      clear kb0
      have q0 := cell_of kb.out 0 _ rfl
      have q1 := cell_of kb.out 1 _ rfl
      have q2 := cell_of kb.out 2 _ rfl
      have q3 := cell_of kb.out 3 _ rfl
      have q4 := cell_of kb.out 4 _ rfl
      have q5 := cell_of kb.out 5 _ rfl
      have q6 := cell_of kb.out 6 _ rfl
      have bb := hid (box_below wr (.cells #[.int .i64 yl, .int .i64 yn, .int .i64 yz, .string ya, .string yb, .int .u64 ylo, .int .u64 yhi] 60))
      have jk0 : (j : Int) < (pn : Int) := by omega
      have jo0 : (0 : Int) ≤ (j : Int) := by omega
      clear htk hmem hin hyok
      unfold kvP at cpl
      dsimp only at cpl
      generalize hpb : plc ⟨yl, yn⟩ = PB at *
      generalize hfb : fil ⟨yn, yz, ya, yb, ylo, yhi⟩ = FB at *
      cases PB with
      | false =>
        have hBf := hid (hno.out rfl)
        clear hpb hfb hyes hno
        go_wp2_with (first | (go_at_call 44; refine (cpl.out _).mono ?_; rintro e w2 ⟨rfl, b2⟩; replace b2 := hid (Below.up bb.out b2); clear q0 q1 q2 q3 q4 q5 q6) | (go_at_call 52; refine (ci.out _).mono ?_; rintro e w3 ⟨rfl, b3⟩; replace b3 := hid (Below.up b2.out b3)))
        go_ret
        exact ⟨ret_bool hBf.out.symm, Below.up bw.out b3.out⟩
      | true =>
        cases FB with
        | false =>
          have hBf := hid (hno.out rfl)
          clear hpb hfb hyes hno
          go_wp2_with (first | (go_at_call 44; refine (cpl.out _).mono ?_; rintro e w2 ⟨rfl, b2⟩; clear q0 q1 q2 q3 q4 q5 q6; have k2 := hid ((b2.block _ (blk_lt kb.out)).trans kb.out); replace b2 := hid (Below.up bb.out b2)) | (go_at_call 52; refine (ci.out _).mono ?_; rintro e w3 ⟨rfl, b3⟩; have k3 := hid ((b3.block _ (blk_lt k2.out)).trans k2.out); have q0 := cell_of k3.out 0 _ rfl; have q1 := cell_of k3.out 1 _ rfl; have q2 := cell_of k3.out 2 _ rfl; have q3 := cell_of k3.out 3 _ rfl; have q4 := cell_of k3.out 4 _ rfl; have q5 := cell_of k3.out 5 _ rfl; have q6 := cell_of k3.out 6 _ rfl; replace b3 := hid (Below.up b2.out b3)) | (go_at_call 53; refine (cf.out _).mono ?_; rintro e w4 ⟨rfl, b4⟩; clear q0 q1 q2 q3 q4 q5 q6; have k4 := (b4.block _ (blk_lt k3.out)).trans k3.out; replace b4 := hid (Below.up b3.out b4); clear k4))
          go_ret
          exact ⟨ret_bool hBf.out.symm, Below.up bw.out b4.out⟩
        | true =>
          have hy := hid (hyes.out rfl)
          clear hpb hfb hyes hno
          go_wp2_with (first | (go_at_call 44; refine (cpl.out _).mono ?_; rintro e w2 ⟨rfl, b2⟩; clear q0 q1 q2 q3 q4 q5 q6; have k2 := hid ((b2.block _ (blk_lt kb.out)).trans kb.out); replace b2 := hid (Below.up bb.out b2)) | (go_at_call 52; refine (ci.out _).mono ?_; rintro e w3 ⟨rfl, b3⟩; have k3 := hid ((b3.block _ (blk_lt k2.out)).trans k2.out); have q0 := cell_of k3.out 0 _ rfl; have q1 := cell_of k3.out 1 _ rfl; have q2 := cell_of k3.out 2 _ rfl; have q3 := cell_of k3.out 3 _ rfl; have q4 := cell_of k3.out 4 _ rfl; have q5 := cell_of k3.out 5 _ rfl; have q6 := cell_of k3.out 6 _ rfl; replace b3 := hid (Below.up b2.out b3)) | (go_at_call 53; refine (cf.out _).mono ?_; rintro e w4 ⟨rfl, b4⟩; clear q0 q1 q2 q3 q4 q5 q6; have k4 := (b4.block _ (blk_lt k3.out)).trans k3.out; have q0 := cell_of k4 0 _ rfl; have q1 := cell_of k4 1 _ rfl; have q2 := cell_of k4 2 _ rfl; have q3 := cell_of k4 3 _ rfl; have q4 := cell_of k4 4 _ rfl; have q5 := cell_of k4 5 _ rfl; have q6 := cell_of k4 6 _ rfl; replace b4 := hid (Below.up b3.out b4); clear k4; obtain ⟨W', r', M', gr'⟩ := (M.out.later b4.out).put yn; have bw' : Hid (Below w.heap.size w W') := below_grown (Below.up bw.out b4.out) (Below.up bw.out b4.out).size gr' (fun k hk => by have := hb.out; cases hk; omega); simp only [show kN.mt = 99 from rfl, show kN.kv = kvN from rfl, kvN] at r'; rw [← hins.out] at M'; replace M' := hid M'; clear gr'))
          go_roundw
          case rel => exact ⟨j + 1, by go_num, by omega, hy, M', bw'⟩
          case measure => simp [intOf]; omega
    · have hje : j = pn := by omega
      subst hje
      have hal : Hid (ps.all (fun x => plc x.pl && fil x.f) = true) := by
        show _ = _
        rw [List.all_eq_true]
        have := hin.out
        rwa [← hpl.out, List.take_length] at this
      have hlen := run_len_n (M.out) 
      have hBe : Hid (((insAll (ps.map fun x => x.f.n)).length == j) = B) := by
        show _ = _
        rw [hB.out]; unfold coOk
        rw [hal.out, Bool.true_and]
        have h := (insAll_len (ps.map fun x => x.f.n)).2
        rw [List.length_map, hpl.out] at h
        by_cases hn : (ps.map fun x => x.f.n).Nodup
        · rw [decide_eq_true hn, h.2 hn]; exact beq_self_eq_true _
        · rw [decide_eq_false hn, beq_eq_false_iff_ne]
          exact fun e => hn (h.1 e)
      have htk : Hid (ps.take j = ps) := by show _ = _; rw [← hpl.out, List.take_length]
      rw [htk.out] at hlen
      have hk8 : (insAll (ps.map fun x => x.f.n)).length ≤ 1099511627776 := by
        have := (insAll_len (ps.map fun x => x.f.n)).1
        rw [List.length_map, hpl.out] at this
        omega
      obtain ⟨kl, hkl⟩ : ∃ n, n = (insAll (ps.map fun x => x.f.n)).length := ⟨_, rfl⟩
      rw [← hkl] at hBe hlen hk8
      replace hkl := hid hkl
      have hcmp : ((kl : Int) == (j : Int)) = (kl == j) := by
        by_cases e : kl = j
        · rw [e, beq_self_eq_true, beq_self_eq_true]
        · rw [beq_eq_false_iff_ne.2 (by omega), beq_eq_false_iff_ne.2 e]
      clear hin hal M htk
      go_wp2_with fail
      go_ret
      exact ⟨ret_bool (by first | (rw [← hBe.out]; done) | (rw [← hBe.out]; exact hcmp)), bw.out⟩
set_option maxHeartbeats 1000000 in
theorem valid_any (v : Value) (e : Ed) (w : World) (HE : EV w v e) : Calls Try.prog 11 #[v] w fun en w' => en = .returned (.bool (vE e)) ∧ Below w.heap.size w w' := by
  obtain ⟨lg, nx, sq, ps, co⟩ := e
  obtain ⟨hok, pa, pc, ca, cc, rfl, HP, HC⟩ := HE
  unfold ev vE
  dsimp only at *
  have hg8 : ps.length ≤ 1099511627776 := hok.2.2.2.1
  have hc8 : co.length ≤ 1099511627776 := hok.2.2.2.2
  obtain ⟨gx, hgx⟩ : ∃ g, g = w.heap.size := ⟨_, rfl⟩
  obtain ⟨W1, hW1⟩ : ∃ W, W = w.alloc (.cells #[.int .i64 lg, .int .i64 nx, .int .u64 sq, .slice pa ps.length pc, .slice ca co.length cc] 26) := ⟨_, rfl⟩
  have kx : W1.heap[gx]? = some (.cells #[.int .i64 lg, .int .i64 nx, .int .u64 sq, .slice pa ps.length pc, .slice ca co.length cc] 26) := by rw [hW1, hgx]; exact new_at _ _
  have bx : Below w.heap.size w W1 := by rw [hW1]; exact box_below _ _
  have q0 := cell_of kx 0 _ rfl
  have q1 := cell_of kx 1 _ rfl
  have q2 := cell_of kx 2 _ rfl
  have q3 := cell_of kx 3 _ rfl
  have q4 := cell_of kx 4 _ rfl
  rw [hW1, hgx] at q0 q1 q2 q3 q4
  have c1 := hid (isFrom_any 0 lg 2147483647)
  have c2 := hid (isFrom_any 0 nx 2147483647)
  have c3 : Hid (∀ W, Below w.heap.size w W → Calls Try.prog 29 #[.slice pa ps.length pc] W fun e w' => e = .returned (.bool (goOk ps)) ∧ Below W.heap.size W w') := fun W b => mayGo_any pa ps.length pc ps W (HP.later b) hg8
  have c4 : Hid (∀ W, Below w.heap.size w W → Calls Try.prog 30 #[.slice ca co.length cc] W fun e w' => e = .returned (.bool (coOk co)) ∧ Below W.heap.size W w') := fun W b => mayCome_any ca co.length cc co W (HC.later b) hc8
  have hk : Hid (∀ W, Below W1.heap.size W1 W → W.cell? ⟨gx, 4, none⟩ = some (.slice ca co.length cc)) := fun W b => (b.cell (block_lt_of_cell (cell_of kx 4 _ rfl))).trans (cell_of kx 4 _ rfl)
  generalize ps.length = pn at *
  generalize co.length = cn at *
  generalize hb1 : fr 0 lg 2147483647 = b1 at *
  generalize hb2 : fr 0 nx 2147483647 = b2 at *
  generalize hb3 : decide (sq ≤ 72057594037927935) = b3 at *
  generalize hb4 : goOk ps = b4 at *
  generalize hb5 : coOk co = b5 at *
  replace bx := hid bx
  replace hW1 := hid hW1
  replace hgx := hid hgx
  clear kx hok hb1 hb2 hb4 hb5 HP HC hg8 hc8
  rcases Va.ch4 b1 b2 b3 b4 with rfl | ⟨rfl, rfl⟩ | ⟨rfl, rfl, rfl⟩ | ⟨rfl, rfl, rfl, rfl⟩ | ⟨rfl, rfl, rfl, rfl⟩
  all_goals
    go_enter Try.func11, Try.ntmps11
    go_wp2_with (first | (go_at_call 28; with_reducible refine (c1.out _).mono ?_; rintro e w2 ⟨rfl, hw2⟩; subst hw2) | (go_at_call 28; with_reducible refine (c2.out _).mono ?_; rintro e w2 ⟨rfl, hw2⟩; subst hw2) | (go_at_call 29; rw [← hW1.out, ← hgx.out]; refine (c3.out _ bx.out).mono ?_; rintro e w3 ⟨rfl, b3'⟩; have f4 := hk.out _ b3'; replace b3' := hid (Below.up bx.out b3')) | (go_at_call 30; refine (c4.out _ b3'.out).mono ?_; rintro e w4 ⟨rfl, b4'⟩; replace b4' := hid (Below.up b3'.out b4')))
    go_ret
    first
      | exact ⟨rfl, b4'.out⟩
      | exact ⟨rfl, b3'.out⟩
      | exact ⟨rfl, by rw [← hW1.out]; exact bx.out⟩
end Go.Proofs.Ytnpeocoipodmfaa.Va
