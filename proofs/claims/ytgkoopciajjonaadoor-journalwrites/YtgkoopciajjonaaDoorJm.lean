/- A file of blocks, as plain lists: pieces and noughts, how a record is laid, how a file is read. -/
import Derived.Test.YtgkoopciajjonaaDoorCrc
namespace Go.Proofs.YtgkoopciajjonaaDoor.Jm
open Go.RowKit
open Go.Proofs.YtgkoopciajjonaaDoor.Crc
set_option linter.unusedVariables false

def plus : BitVec 32 := 2726488792#32
theorem plus_i : (2726488792 : Int) = toI plus := by decide
def mask (x : BitVec 32) : BitVec 32 := rotr x + plus
def unmask (x : BitVec 32) : BitVec 32 := rotl (x - plus)
theorem un_mask (x : BitVec 32) : unmask (mask x) = x := by
  unfold unmask mask; rw [BitVec.add_sub_cancel, rotl_rotr]
theorem mask_inj {x y : BitVec 32} (h : mask x = mask y) : x = y := by rw [← un_mask x, h, un_mask]
/-- The sum as it is kept. -/
def ks (k : Int) (d : List Int) : BitVec 32 := mask (sum (k :: d))
def le4 (x : BitVec 32) : List Int := [((x.toNat % 256 : Nat) : Int), ((x.toNat / 256 % 256 : Nat) : Int), ((x.toNat / 65536 % 256 : Nat) : Int), ((x.toNat / 16777216 % 256 : Nat) : Int)]
def le2 (n : Nat) : List Int := [((n % 256 : Nat) : Int), ((n / 256 % 256 : Nat) : Int)]
/-- A piece's bytes. -/
def pc (k : Int) (d : List Int) : List Int := le4 (ks k d) ++ (le2 d.length ++ (k :: d))
theorem pc_len (k : Int) (d : List Int) : (pc k d).length = 7 + d.length := by simp [pc, le4, le2]; omega
def kd (first last : Bool) : Int := if first then (if last then 1 else 2) else (if last then 4 else 3)
theorem kd_bd (f l : Bool) : 1 ≤ kd f l ∧ kd f l ≤ 4 := by cases f <;> cases l <;> decide
/-- What lies in a file: noughts up to a block's end, or a piece. -/
inductive Ch where
  | pad (n : Nat)
  | pie (k : Int) (d : List Int)
def Ch.b : Ch → List Int
  | .pad n => List.replicate n 0
  | .pie k d => pc k d
def flat (cs : List Ch) : List Int := cs.flatMap Ch.b
theorem flat_nil : flat [] = [] := rfl
theorem flat_cons (c : Ch) (cs : List Ch) : flat (c :: cs) = c.b ++ flat cs := by simp [flat]
theorem flat_append (cs ds : List Ch) : flat (cs ++ ds) = flat cs ++ flat ds := by simp [flat]
/-- The pieces of a record, the first one with room for so many data, the others for 'fresh'. -/
def pcs (fresh : Nat) : Nat → Nat → Bool → List Int → List Ch
  | 0, _, _, _ => []
  | n + 1, room, first, r => if r.length ≤ room then [.pie (kd first true) r] else .pie (kd first false) (r.take room) :: pcs fresh n fresh false (r.drop room)
def left (block at' : Nat) : Nat := block - at' % block
def noughts (block at' : Nat) : Nat := if left block at' < 7 then left block at' else 0
def room (block at' : Nat) : Nat := if left block at' < 7 then block - 7 else left block at' - 7
/-- What a record adds behind so many bytes. -/
def addc (block at' : Nat) (r : List Int) : List Ch :=
  (if left block at' < 7 then [.pad (left block at')] else []) ++ pcs (block - 7) (r.length + 2) (room block at') true r

/-! ### Reading -/
inductive Pa where
  | bad (how : Nat)
  | ok (k : Int) (d : List Int)
def cnt (t : List Int) : Nat := (t.getD 4 0).toNat + 256 * (t.getD 5 0).toNat
def sm (t : List Int) : Int := t.getD 0 0 + 256 * t.getD 1 0 + 65536 * t.getD 2 0 + 16777216 * t.getD 3 0
def pa (t : List Int) (lf : Nat) : Pa :=
  if t.length < 7 then .bad 1
  else if (t.getD 6 0 < 1 ∨ 4 < t.getD 6 0) ∨ lf - 7 < cnt t then .bad 2
  else if t.length - 7 < cnt t then .bad 1
  else if toI (ks (t.getD 6 0) ((t.drop 7).take (cnt t))) ≠ sm t then .bad 2
  else .ok (t.getD 6 0) ((t.drop 7).take (cnt t))
inductive Out where
  | stop (how : Nat)
  | go (at' : Nat) (r : List Int) (b : Bool)
  | give (at' : Nat) (r : List Int)
def begins (k : Int) : Bool := k == 1 || k == 2
def ends (k : Int) : Bool := k == 1 || k == 4
def stp (block : Nat) (f : List Int) (at' : Nat) (r : List Int) (b : Bool) : Out :=
  if f.length ≤ at' then .stop (if b then 1 else 0)
  else if left block at' < 7 then
    if ∀ y ∈ (f.drop at').take (left block at'), y = 0 then .go (at' + ((f.drop at').take (left block at')).length) r b else .stop 2
  else match pa ((f.drop at').take (left block at')) (left block at') with
    | .bad how => .stop how
    | .ok k d => if begins k = b ∨ 2097152 < r.length + d.length then .stop 2
      else if ends k then .give (at' + 7 + d.length) (r ++ d) else .go (at' + 7 + d.length) (r ++ d) true
/-- How a file is read from a place on: the records that are told, and how it ends. -/
inductive Rd (block : Nat) (f : List Int) : Nat → List Int → Bool → List (Nat × List Int) → Nat → Prop where
  | stop {at' r b how} : stp block f at' r b = .stop how → Rd block f at' r b [] how
  | go {at' r b a2 r2 b2 out how} : stp block f at' r b = .go a2 r2 b2 → Rd block f a2 r2 b2 out how → Rd block f at' r b out how
  | give {at' r b a2 r2 out how} : stp block f at' r b = .give a2 r2 → Rd block f a2 [] false out how → Rd block f at' r b ((a2, r2) :: out) how

/-! ### A piece that is read -/
theorem le4_val (x : BitVec 32) (t : List Int) : sm (le4 x ++ t) = toI x := by
  have := x.isLt
  simp only [sm, le4, List.cons_append, List.nil_append, List.getD_cons_zero, List.getD_cons_succ]
  unfold toI
  omega
theorem pc_get6 (k : Int) (d t : List Int) : (pc k d ++ t).getD 6 0 = k := rfl
theorem pc_cnt (k : Int) (d t : List Int) (h : d.length < 65536) : cnt (pc k d ++ t) = d.length := by
  show (((d.length % 256 : Nat) : Int)).toNat + 256 * (((d.length / 256 % 256 : Nat) : Int)).toNat = d.length
  omega
theorem pc_sm (k : Int) (d t : List Int) : sm (pc k d ++ t) = toI (ks k d) := by
  unfold pc; rw [List.append_assoc]; exact le4_val _ _
theorem pc_data (k : Int) (d t : List Int) : (pc k d ++ t).drop 7 = d ++ t := rfl
theorem pa_ok (k : Int) (d t : List Int) (lf : Nat) (hk : 1 ≤ k ∧ k ≤ 4) (hd : d.length + 7 ≤ lf) (hl : d.length < 65536) : pa (pc k d ++ t) lf = .ok k d := by
  have hp := pc_len k d
  unfold pa
  rw [pc_get6, pc_cnt k d t hl, pc_sm, pc_data]
  rw [if_neg (by simp; omega), if_neg (by omega), if_neg (by simp; omega), List.take_left' rfl, if_neg (by simp)]
theorem take_append_ge {α : Type} (a b : List α) (n : Nat) (h : a.length ≤ n) : (a ++ b).take n = a ++ b.take (n - a.length) := by
  rw [List.take_append, List.take_of_length_le h]
theorem getD_prefix {a b : List Int} (h : a <+: b) (i : Nat) (hi : i < a.length) : a.getD i 0 = b.getD i 0 := by
  obtain ⟨t, rfl⟩ := h
  simp [List.getD_eq_getElem?_getD, List.getElem?_append_left hi]
/-- A piece that is cut off is torn. -/
theorem pa_cut (k : Int) (d x : List Int) (lf : Nat) (hk : 1 ≤ k ∧ k ≤ 4) (hd : d.length + 7 ≤ lf) (hl : d.length < 65536) (hx : x <+: pc k d) (hlt : x.length < (pc k d).length) : pa x lf = .bad 1 := by
  have hp := pc_len k d
  unfold pa
  by_cases h7 : x.length < 7
  · rw [if_pos h7]
  · rw [if_neg h7]
    have g := fun i hi => getD_prefix hx i hi
    have h6 : x.getD 6 0 = k := (g 6 (by omega)).trans (by have := pc_get6 k d []; rwa [List.append_nil] at this)
    have hc : cnt x = d.length := by
      unfold cnt
      rw [g 4 (by omega), g 5 (by omega)]
      have := pc_cnt k d [] hl
      rwa [List.append_nil] at this
    rw [h6, hc, if_neg (by omega), if_pos (by omega)]
theorem stp_pie (block : Nat) (hb : 32 ≤ block ∧ block ≤ 32768) (pre suf : List Int) (k : Int) (d r : List Int) (b : Bool) (hk : 1 ≤ k ∧ k ≤ 4) (h7 : 7 ≤ left block pre.length) (hd : d.length + 7 ≤ left block pre.length)
    (hbg : begins k = !b) (hm : r.length + d.length ≤ 2097152) :
    stp block (pre ++ (pc k d ++ suf)) pre.length r b = if ends k then .give (pre.length + 7 + d.length) (r ++ d) else .go (pre.length + 7 + d.length) (r ++ d) true := by
  have hp := pc_len k d
  have hl : left block pre.length ≤ block := by unfold left; omega
  unfold stp
  rw [if_neg (by simp; omega), if_neg (by omega), List.drop_left' rfl, take_append_ge _ _ _ (by omega), pa_ok k d _ _ hk hd (by omega)]
  simp only [hbg]
  rw [if_neg (by cases b <;> simp <;> omega)]
theorem stp_pad (block : Nat) (pre suf : List Int) (r : List Int) (b : Bool) (h7 : left block pre.length < 7) (h0 : 0 < left block pre.length) :
    stp block (pre ++ (List.replicate (left block pre.length) 0 ++ suf)) pre.length r b = .go (pre.length + left block pre.length) r b := by
  unfold stp
  rw [if_neg (by simp; omega), if_pos h7, List.drop_left' rfl, List.take_left' (by simp), if_pos (by intro y hy; exact (List.mem_replicate.1 hy).2)]
  simp
theorem left_pos (block a : Nat) (hb : 0 < block) : 0 < left block a := by have := Nat.mod_lt a hb; unfold left; omega
theorem left_le (block a : Nat) : left block a ≤ block := by unfold left; omega
theorem left_end (block a : Nat) (hb : 0 < block) : left block (a + left block a) = block := by
  have h1 := Nat.mod_lt a hb
  have h2 := Nat.div_add_mod a block
  unfold left
  have : a + (block - a % block) = block * (a / block + 1) := by rw [Nat.mul_add]; omega
  rw [this, Nat.mul_mod_right]; rfl
theorem begins_kd (f l : Bool) : begins (kd f l) = f := by cases f <;> cases l <;> rfl
theorem ends_kd (f l : Bool) : ends (kd f l) = l := by cases f <;> cases l <;> rfl
/-- The pieces of a record are read: the record is told. -/
theorem rd_pcs (block : Nat) (hb : 32 ≤ block ∧ block ≤ 32768) : ∀ (n rm : Nat) (first : Bool) (r pre suf rec : List Int) (out : List (Nat × List Int)) (how : Nat), r.length + (if first then 2 else 1) ≤ n → left block pre.length = rm + 7 → (first = false → rm = block - 7) → rec.length + r.length ≤ 2097152 →
    Rd block (pre ++ (flat (pcs (block - 7) n rm first r) ++ suf)) (pre.length + (flat (pcs (block - 7) n rm first r)).length) [] false out how →
    Rd block (pre ++ (flat (pcs (block - 7) n rm first r) ++ suf)) pre.length rec (!first) ((pre.length + (flat (pcs (block - 7) n rm first r)).length, rec ++ r) :: out) how := by
  intro n
  induction n with
  | zero => intro rm first r pre suf rec out how hn; cases first <;> simp at hn
  | succ n ih =>
    intro rm first r pre suf rec out how hn hrm hfr hm hR
    unfold pcs at hR ⊢
    by_cases h : r.length ≤ rm
    · rw [if_pos h] at hR ⊢
      rw [flat_cons, flat_nil, List.append_nil] at hR ⊢
      simp only [Ch.b] at hR ⊢
      have S := stp_pie block hb pre suf (kd first true) r rec (!first) (kd_bd _ _) (by omega) (by omega) (by rw [begins_kd]; simp) hm
      rw [ends_kd, if_pos rfl] at S
      rw [pc_len, ← Nat.add_assoc] at hR ⊢
      exact .give S hR
    · rw [if_neg h] at hR ⊢
      rw [flat_cons, List.append_assoc] at hR ⊢
      simp only [Ch.b] at hR ⊢
      have ht : (r.take rm).length = rm := by rw [List.length_take]; omega
      have S := stp_pie block hb pre (flat (pcs (block - 7) n (block - 7) false (r.drop rm)) ++ suf) (kd first false) (r.take rm) rec (!first) (kd_bd _ _) (by omega) (by omega) (by rw [begins_kd]; simp) (by omega)
      rw [ends_kd] at S
      simp only [Bool.false_eq_true, if_false] at S
      refine .go S ?_
      have hp : (pre ++ pc (kd first false) (r.take rm)).length = pre.length + 7 + rm := by rw [List.length_append, pc_len, ht]; omega
      have key := ih (block - 7) false (r.drop rm) (pre ++ pc (kd first false) (r.take rm)) suf (rec ++ r.take rm) out how ?_ ?_ (fun _ => rfl) ?_ ?_
      · rw [List.append_assoc, hp, List.append_assoc, List.take_append_drop] at key
        rw [ht]
        rw [show pre.length + (pc (kd first false) (r.take rm) ++ flat (pcs (block - 7) n (block - 7) false (r.drop rm))).length = pre.length + 7 + rm + (flat (pcs (block - 7) n (block - 7) false (r.drop rm))).length by rw [List.length_append, pc_len, ht]; omega]
        exact key
      · rw [List.length_drop]
        cases first with
        | true => simp at hn ⊢; omega
        | false => have := hfr rfl; simp at hn ⊢; omega
      · have he := left_end block pre.length (by omega)
        rw [hp, show pre.length + 7 + rm = pre.length + left block pre.length by omega, he]; omega
      · rw [List.length_append, ht, List.length_drop]; omega
      · rw [List.append_assoc, hp]
        rw [show pre.length + (pc (kd first false) (r.take rm) ++ flat (pcs (block - 7) n (block - 7) false (r.drop rm))).length = pre.length + 7 + rm + (flat (pcs (block - 7) n (block - 7) false (r.drop rm))).length by rw [List.length_append, pc_len, ht]; omega] at hR
        exact hR
/-- A record is read: it is told, with the place behind it. -/
theorem rd_add (block : Nat) (hb : 32 ≤ block ∧ block ≤ 32768) (r pre suf : List Int) (out : List (Nat × List Int)) (how : Nat) (hm : r.length ≤ 2097152)
    (hR : Rd block (pre ++ (flat (addc block pre.length r) ++ suf)) (pre.length + (flat (addc block pre.length r)).length) [] false out how) :
    Rd block (pre ++ (flat (addc block pre.length r) ++ suf)) pre.length [] false ((pre.length + (flat (addc block pre.length r)).length, r) :: out) how := by
  unfold addc room at hR ⊢
  by_cases h : left block pre.length < 7
  · simp only [if_pos h] at hR ⊢
    rw [List.singleton_append, flat_cons, List.append_assoc] at hR ⊢
    simp only [Ch.b] at hR ⊢
    refine .go (stp_pad block pre _ [] false h (left_pos _ _ (by omega))) ?_
    have hp : (pre ++ List.replicate (left block pre.length) (0 : Int)).length = pre.length + left block pre.length := by simp
    have key := rd_pcs block hb (r.length + 2) (block - 7) true r (pre ++ List.replicate (left block pre.length) 0) suf [] out how (by simp) (by rw [hp, left_end _ _ (by omega)]; omega) (by simp) (by simpa using hm) ?_
    · rw [hp, List.append_assoc, List.nil_append] at key
      rw [List.length_append, List.length_replicate, ← Nat.add_assoc]
      exact key
    · rw [hp, List.append_assoc]
      rw [List.length_append, List.length_replicate, ← Nat.add_assoc] at hR
      exact hR
  · simp only [if_neg h, List.nil_append] at hR ⊢
    exact rd_pcs block hb (r.length + 2) (left block pre.length - 7) true r pre suf [] out how (by simp) (by omega) (by simp) (by simpa using hm) hR
end Go.Proofs.YtgkoopciajjonaaDoor.Jm
