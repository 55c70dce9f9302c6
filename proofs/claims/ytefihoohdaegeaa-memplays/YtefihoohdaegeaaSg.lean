/- Plain mathematics of stage 8: chains of numbers by links, a list of nodes with its order, what is last below a key in a level, what is first not below it, and a node more. -/
import Derived.Test.YtefihoohdaegeaaIk
namespace Go.Proofs.Ytefihoohdaegeaa.Sg
open Go.Proofs.Ytefihoohdaegeaa.Ik
set_option linter.unusedVariables false

/-- A node: its key, what belongs to it, its height. -/
structure N where
  k : ByteArray
  s : Int
  c : Int
  v : Value
  h : Nat
def N.ik (n : N) : IK := (n.k.data.toList, n.s, n.c)
def zn : N := ⟨ByteArray.empty, 0, 0, .int .i64 0, 0⟩

def hz : List Nat → Nat
  | [] => 0
  | y :: _ => y
/-! ### Chains by links -/
def Ch (f : Nat → Nat) : Nat → List Nat → Prop
  | a, [] => f a = 0
  | a, b :: l => f a = b ∧ b ≠ 0 ∧ Ch f b l
theorem Ch.congr {f g : Nat → Nat} : ∀ {l : List Nat} {a : Nat}, Ch f a l → (∀ x, x ∈ a :: l → g x = f x) → Ch g a l
  | [], a, h, e => by
    show g a = 0
    rw [e a (by simp)]; exact h
  | b :: l, a, h, e => by
    refine ⟨?_, h.2.1, Ch.congr h.2.2 fun x hx => e x (List.mem_cons_of_mem _ hx)⟩
    rw [e a (by simp)]; exact h.1
theorem Ch.last {f : Nat → Nat} : ∀ {p q : List Nat} {a : Nat}, Ch f a (p ++ q) → Ch f (p.getLastD a) q
  | [], q, a, h => h
  | b :: p, q, a, h => by
    have := Ch.last (p := p) h.2.2
    rwa [List.getLastD_cons]
/-- A number more, behind the last one of a beginning. -/
theorem Ch.ins {f g : Nat → Nat} {m : Nat} (hm : m ≠ 0) : ∀ {p q : List Nat} {a : Nat}, Ch f a (p ++ q) → (a :: (p ++ q)).Nodup → m ∉ a :: (p ++ q) → g (p.getLastD a) = m → g m = f (p.getLastD a) →
    (∀ x, x ≠ m → x ≠ p.getLastD a → g x = f x) → Ch g a (p ++ m :: q)
  | [], q, a, h, nd, hn, h1, h2, h3 => by
    refine ⟨h1, hm, ?_⟩
    cases q with
    | nil => show g m = 0; rw [h2]; exact h
    | cons b q =>
      refine ⟨by rw [h2]; exact h.1, h.2.1, Ch.congr h.2.2 ?_⟩
      intro x hx
      refine h3 x ?_ ?_
      · rintro rfl; exact hn (List.mem_cons_of_mem _ (by simpa using hx))
      · rintro rfl; exact (List.nodup_cons.1 nd).1 (by simpa using hx)
  | b :: p, q, a, h, nd, hn, h1, h2, h3 => by
    rw [List.getLastD_cons] at h1 h2 h3
    have nd' : (b :: (p ++ q)).Nodup := (List.nodup_cons.1 nd).2
    refine ⟨?_, h.2.1, Ch.ins hm h.2.2 nd' (fun hx => hn (List.mem_cons_of_mem _ hx)) h1 h2 h3⟩
    rw [h3 a, h.1]
    · rintro rfl; exact hn (by simp)
    · intro e
      refine (List.nodup_cons.1 nd).1 ?_
      rw [e]
      have : p.getLastD b ∈ b :: p := by
        rw [List.getLastD_eq_getLast?]
        cases hp : p.getLast? with
        | none => simp
        | some y => exact List.mem_cons_of_mem _ (List.mem_of_getLast? hp)
      rcases List.mem_cons.1 this with h' | h'
      · rw [h']; simp
      · exact List.mem_append_left _ (List.mem_cons_of_mem _ h')

/-! ### A list of nodes in its order -/
def nd (ns : List N) (n : Nat) : N := (zn :: ns).getD n zn
theorem nd_pos {ns : List N} {n : Nat} (h : 1 ≤ n) : nd ns n = ns.getD (n - 1) zn := by
  obtain ⟨m, rfl⟩ : ∃ m, n = m + 1 := ⟨n - 1, by omega⟩
  simp [nd]
theorem nd_zero (ns : List N) : nd ns 0 = zn := rfl
def key (ns : List N) (n : Nat) : IK := (nd ns n).ik
def below (ns : List N) (k : IK) (n : Nat) : Bool := decide (cmp (key ns n) k < 0)
def chain (ns : List N) (ord : List Nat) (lv : Nat) : List Nat := ord.filter fun n => decide (lv < (nd ns n).h)
structure Gd (ns : List N) (ord : List Nat) : Prop where
  mem : ∀ n, n ∈ ord ↔ 1 ≤ n ∧ n ≤ ns.length
  rise : ord.Pairwise fun a b => cmp (key ns a) (key ns b) < 0
  len : ord.length = ns.length
  hs : ∀ x ∈ ns, 1 ≤ x.h ∧ x.h ≤ 12
def lastB (ns : List N) (ord : List Nat) (k : IK) (lv : Nat) : Nat := ((chain ns ord lv).filter (below ns k)).getLastD 0
def firstN (ns : List N) (ord : List Nat) (k : IK) : Nat := hz (ord.filter fun n => !below ns k n)
def top (ns : List N) : Nat := ns.foldl (fun m x => max m x.h) 0

theorem cmp_lt (a b : IK) : cmp a b < 0 ↔ Lt a b := by
  rcases cmp_cases a b with ⟨h, l⟩ | ⟨h, e⟩ | ⟨h, l⟩
  · rw [h]; simp [l]
  · subst e; rw [h]; simp [Lt_irrefl]
  · rw [h]; simp; exact fun h' => Lt_irrefl _ (Lt_trans h' l)
theorem cmp_lt_trans {a b c : IK} (h1 : cmp a b < 0) (h2 : cmp b c < 0) : cmp a c < 0 := (cmp_lt _ _).2 (Lt_trans ((cmp_lt _ _).1 h1) ((cmp_lt _ _).1 h2))
theorem cmp_lt_irrefl (a : IK) : ¬ cmp a a < 0 := by rw [cmp_self]; omega
theorem cmp_pos (a b : IK) : 0 < cmp a b ↔ cmp b a < 0 := by have := cmp_anti a b; omega
theorem Gd.nodup {ns : List N} {ord : List Nat} (H : Gd ns ord) : ord.Nodup := H.rise.imp fun {a b} h e => by rw [e] at h; exact cmp_lt_irrefl _ h
theorem Gd.ne0 {ns : List N} {ord : List Nat} (H : Gd ns ord) {n : Nat} (h : n ∈ ord) : n ≠ 0 := by have := (H.mem n).1 h; omega
theorem mem_chain {ns : List N} {ord : List Nat} {lv n : Nat} : n ∈ chain ns ord lv ↔ n ∈ ord ∧ lv < (nd ns n).h := by simp [chain]
theorem chain_sub {ns : List N} {ord : List Nat} {lv n : Nat} (h : n ∈ chain ns ord (lv + 1)) : n ∈ chain ns ord lv := by
  rw [mem_chain] at *; exact ⟨h.1, by omega⟩
theorem Gd.crise {ns : List N} {ord : List Nat} (H : Gd ns ord) (lv : Nat) : (chain ns ord lv).Pairwise fun a b => cmp (key ns a) (key ns b) < 0 := H.rise.filter _
theorem Gd.nd_mem {ns : List N} {ord : List Nat} (H : Gd ns ord) {n : Nat} (h : n ∈ ord) : nd ns n ∈ ns := by
  have := (H.mem n).1 h
  rw [nd_pos this.1]
  rw [List.getD_eq_getElem?_getD, List.getElem?_eq_getElem (by omega)]
  exact List.getElem_mem _
theorem Gd.chain0 {ns : List N} {ord : List Nat} (H : Gd ns ord) : chain ns ord 0 = ord := by
  unfold chain
  rw [List.filter_eq_self]
  intro n hn
  have := (H.hs _ (H.nd_mem hn)).1
  simp; omega
theorem below_mono {ns : List N} {k : IK} {a b : Nat} (h : cmp (key ns a) (key ns b) < 0) (hb : below ns k b = true) : below ns k a = true := by
  unfold below at *
  simp only [decide_eq_true_eq] at *
  exact cmp_lt_trans h hb
/-- Of a rising list the ones below a key are its beginning. -/
theorem split_below {ns : List N} {k : IK} {p q : List Nat} (hr : (p ++ q).Pairwise fun a b => cmp (key ns a) (key ns b) < 0) (hp : ∀ x ∈ p, below ns k x = true) (hq : ∀ y, q.head? = some y → below ns k y = false) :
    (p ++ q).filter (below ns k) = p ∧ (p ++ q).filter (fun n => !below ns k n) = q := by
  have hq' : ∀ y ∈ q, below ns k y = false := by
    cases q with
    | nil => simp
    | cons z q =>
      intro y hy
      have hz := hq z rfl
      rcases List.mem_cons.1 hy with rfl | hy
      · exact hz
      · cases hb : below ns k y
        · rfl
        · have h1 := (List.pairwise_append.1 hr).2.1
          have := below_mono ((List.pairwise_cons.1 h1).1 y hy) hb
          rw [this] at hz; cases hz
  constructor
  · rw [List.filter_append, List.filter_eq_self.2 hp, List.filter_eq_nil_iff.2 (by intro y hy; simp [hq' y hy]), List.append_nil]
  · rw [List.filter_append, List.filter_eq_nil_iff.2 (by intro y hy; simp [hp y hy]), List.filter_eq_self.2 (by intro y hy; simp [hq' y hy]), List.nil_append]
/-- Where a level is entered: a beginning of its chain that ends with the last one of the level above, all of it below. -/
theorem enter {ns : List N} {ord : List Nat} (H : Gd ns ord) (k : IK) (lv : Nat) (a : Nat) (ha : a = lastB ns ord k (lv + 1)) :
    ∃ p q, chain ns ord lv = p ++ q ∧ p.getLastD 0 = a ∧ ∀ x ∈ p, below ns k x = true := by
  unfold lastB at ha
  rw [List.getLastD_eq_getLast?] at ha
  cases hl : ((chain ns ord (lv + 1)).filter (below ns k)).getLast? with
  | none => rw [hl] at ha; exact ⟨[], _, rfl, by simpa using ha.symm, by simp⟩
  | some y =>
    rw [hl] at ha
    have ha : a = y := by simpa using ha
    subst ha
    have hm := List.mem_of_getLast? hl
    rw [List.mem_filter] at hm
    obtain ⟨p, q, e⟩ := List.append_of_mem (chain_sub hm.1)
    refine ⟨p ++ [a], q, by rw [e]; simp, by simp, ?_⟩
    have hr := H.crise lv
    rw [e] at hr
    intro x hx
    rcases List.mem_append.1 hx with hx | hx
    · exact below_mono ((List.pairwise_append.1 hr).2.2 x hx a (by simp)) hm.2
    · rw [List.mem_singleton.1 hx]; exact hm.2
theorem enter_top {ns : List N} {ord : List Nat} (k : IK) (lv : Nat) : ∃ p q, chain ns ord lv = p ++ q ∧ p.getLastD 0 = 0 ∧ ∀ x ∈ p, below ns k x = true := ⟨[], _, rfl, rfl, by simp⟩
/-- Where it is left. -/
theorem leave {ns : List N} {ord : List Nat} (H : Gd ns ord) (k : IK) (lv : Nat) {p q : List Nat} (e : chain ns ord lv = p ++ q) (hp : ∀ x ∈ p, below ns k x = true) (hq : ∀ y, q.head? = some y → below ns k y = false) : lastB ns ord k lv = p.getLastD 0 := by
  unfold lastB
  have hr := H.crise lv
  rw [e] at hr ⊢
  rw [(split_below hr hp hq).1]
theorem leave0 {ns : List N} {ord : List Nat} (H : Gd ns ord) (k : IK) {p q : List Nat} (e : chain ns ord 0 = p ++ q) (hp : ∀ x ∈ p, below ns k x = true) (hq : ∀ y, q.head? = some y → below ns k y = false) : firstN ns ord k = hz q := by
  unfold firstN
  rw [H.chain0] at e
  have hr := H.rise
  rw [e] at hr ⊢
  rw [(split_below hr hp hq).2]
theorem foldl_max (l : List N) : ∀ (a : Nat), (∀ x ∈ l, x.h ≤ l.foldl (fun m x => max m x.h) a) ∧ a ≤ l.foldl (fun m x => max m x.h) a := by
  induction l with
  | nil => intro a; simp
  | cons y l ih =>
    intro a
    have := ih (max a y.h)
    refine ⟨?_, by simp only [List.foldl_cons]; omega⟩
    intro x hx
    rcases List.mem_cons.1 hx with rfl | hx
    · simp only [List.foldl_cons]; omega
    · exact this.1 x hx
theorem foldl_max_le (l : List N) (b : Nat) (h : ∀ x ∈ l, x.h ≤ b) : ∀ (a : Nat), a ≤ b → l.foldl (fun m x => max m x.h) a ≤ b := by
  induction l with
  | nil => intro a ha; simpa
  | cons y l ih =>
    intro a ha
    have := h y (by simp)
    exact ih (fun x hx => h x (List.mem_cons_of_mem _ hx)) (max a y.h) (by omega)
theorem top_le {ns : List N} {x : N} (h : x ∈ ns) : x.h ≤ top ns := (foldl_max ns 0).1 x h
theorem Gd.top12 {ns : List N} {ord : List Nat} (H : Gd ns ord) : top ns ≤ 12 := foldl_max_le ns 12 (fun x hx => (H.hs x hx).2) 0 (by omega)
theorem Gd.over {ns : List N} {ord : List Nat} (H : Gd ns ord) (lv : Nat) (h : top ns ≤ lv) : chain ns ord lv = [] := by
  unfold chain
  rw [List.filter_eq_nil_iff]
  intro n hn
  have := top_le (H.nd_mem hn)
  simp; omega
theorem Gd.lastB_over {ns : List N} {ord : List Nat} (H : Gd ns ord) (k : IK) (lv : Nat) (h : top ns ≤ lv) : lastB ns ord k lv = 0 := by
  unfold lastB; rw [H.over lv h]; rfl
theorem lastB_le {ns : List N} {ord : List Nat} (H : Gd ns ord) (k : IK) (lv : Nat) : lastB ns ord k lv ≤ ns.length := by
  unfold lastB
  rw [List.getLastD_eq_getLast?]
  cases hl : ((chain ns ord lv).filter (below ns k)).getLast? with
  | none => simp
  | some y =>
    have hm := List.mem_of_getLast? hl
    rw [List.mem_filter, mem_chain] at hm
    have := (H.mem y).1 hm.1.1
    simp; omega

/-! ### A node more -/
def ordI (ns : List N) (ord : List Nat) (k : IK) (m : Nat) : List Nat := ord.filter (below ns k) ++ m :: ord.filter fun n => !below ns k n
theorem nd_old {ns : List N} {x : N} {n : Nat} (h1 : 1 ≤ n) (h2 : n ≤ ns.length) : nd (ns ++ [x]) n = nd ns n := by
  rw [nd_pos h1, nd_pos h1]
  rw [List.getD_eq_getElem?_getD, List.getD_eq_getElem?_getD, List.getElem?_append_left (by omega)]
theorem nd_new (ns : List N) (x : N) : nd (ns ++ [x]) (ns.length + 1) = x := by
  rw [nd_pos (by omega)]
  rw [List.getD_eq_getElem?_getD]; simp
theorem ord_split {ns : List N} {ord : List Nat} (H : Gd ns ord) (k : IK) : ord = ord.filter (below ns k) ++ ord.filter fun n => !below ns k n := by
  have : ∀ l : List Nat, (l.Pairwise fun a b => cmp (key ns a) (key ns b) < 0) → l = l.filter (below ns k) ++ l.filter fun n => !below ns k n := by
    intro l
    induction l with
    | nil => intro _; rfl
    | cons a l ih =>
      intro hr
      have hr' := List.pairwise_cons.1 hr
      by_cases hb : below ns k a = true
      · rw [List.filter_cons_of_pos hb, List.filter_cons_of_neg (by simp [hb]), List.cons_append, ← ih hr'.2]
      · have hb : below ns k a = false := by simpa using hb
        have hall : ∀ y ∈ l, below ns k y = false := by
          intro y hy
          cases hc : below ns k y
          · rfl
          · rw [below_mono (hr'.1 y hy) hc] at hb; cases hb
        rw [List.filter_cons_of_neg (by simp [hb]), List.filter_cons_of_pos (by simp [hb]), List.filter_eq_nil_iff.2 (by intro y hy; simp [hall y hy]), List.filter_eq_self.2 (by intro y hy; simp [hall y hy]), List.nil_append]
  exact this ord H.rise
theorem Gd.ins {ns : List N} {ord : List Nat} (H : Gd ns ord) (x : N) (hx : 1 ≤ x.h ∧ x.h ≤ 12) (hno : ∀ n ∈ ord, cmp (key ns n) x.ik ≠ 0) : Gd (ns ++ [x]) (ordI ns ord x.ik (ns.length + 1)) := by
  have hs := ord_split H x.ik
  have key_old : ∀ n ∈ ord, key (ns ++ [x]) n = key ns n := fun n hn => by
    have := (H.mem n).1 hn
    unfold key; rw [nd_old this.1 this.2]
  have key_new : key (ns ++ [x]) (ns.length + 1) = x.ik := by unfold key; rw [nd_new]
  refine ⟨?_, ?_, ?_, ?_⟩
  · intro n
    have h1 : n ∈ ordI ns ord x.ik (ns.length + 1) ↔ n ∈ ord ∨ n = ns.length + 1 := by
      unfold ordI
      rw [List.mem_append, List.mem_cons]
      conv => rhs; rw [hs, List.mem_append]
      constructor
      · rintro (h | h | h)
        · exact .inl (.inl h)
        · exact .inr h
        · exact .inl (.inr h)
      · rintro ((h | h) | h)
        · exact .inl h
        · exact .inr (.inr h)
        · exact .inr (.inl h)
    rw [h1, H.mem n, List.length_append]
    simp; omega
  · have hr := H.rise
    rw [hs] at hr
    obtain ⟨r1, r2, r3⟩ := List.pairwise_append.1 hr
    have m1 : ∀ n, n ∈ ord.filter (below ns x.ik) → n ∈ ord := fun n h => (List.mem_filter.1 h).1
    have m2 : ∀ n, n ∈ (ord.filter fun n => !below ns x.ik n) → n ∈ ord := fun n h => (List.mem_filter.1 h).1
    unfold ordI
    rw [List.pairwise_append]
    refine ⟨r1.imp_of_mem (fun ha hb h => ?_), ?_, ?_⟩
    · rw [key_old _ (m1 _ ha), key_old _ (m1 _ hb)]; exact h
    · rw [List.pairwise_cons]
      refine ⟨?_, r2.imp_of_mem (fun ha hb h => ?_)⟩
      · intro a ha
        rw [key_new, key_old a (m2 a ha)]
        have := (List.mem_filter.1 ha).2
        unfold below at this
        have h0 := hno a (m2 a ha)
        have := cmp_anti (key ns a) x.ik
        simp at *
        omega
      · rw [key_old _ (m2 _ ha), key_old _ (m2 _ hb)]; exact h
    · intro a ha b hb
      rcases List.mem_cons.1 hb with rfl | hb
      · rw [key_new, key_old a (m1 a ha)]
        have := (List.mem_filter.1 ha).2
        unfold below at this
        simpa using this
      · rw [key_old a (m1 a ha), key_old b (m2 b hb)]; exact r3 a ha b hb
  · unfold ordI
    have := congrArg List.length hs
    rw [List.length_append] at this
    rw [List.length_append, List.length_cons, List.length_append]
    have := H.len
    simp; omega
  · intro y hy
    rcases List.mem_append.1 hy with hy | hy
    · exact H.hs y hy
    · rw [List.mem_singleton.1 hy]; exact hx
/-- The chains behind it. -/
theorem chain_ins {ns : List N} {ord : List Nat} (H : Gd ns ord) (x : N) (lv : Nat) :
    chain (ns ++ [x]) (ordI ns ord x.ik (ns.length + 1)) lv = if lv < x.h then (chain ns ord lv).filter (below ns x.ik) ++ (ns.length + 1) :: (chain ns ord lv).filter (fun n => !below ns x.ik n) else chain ns ord lv := by
  have old : ∀ n ∈ ord, decide (lv < (nd (ns ++ [x]) n).h) = decide (lv < (nd ns n).h) := fun n hn => by
    have := (H.mem n).1 hn
    rw [nd_old this.1 this.2]
  have f1 : ∀ q : Nat → Bool, (ord.filter q).filter (fun n => decide (lv < (nd (ns ++ [x]) n).h)) = (chain ns ord lv).filter q := by
    intro q
    unfold chain
    rw [List.filter_filter, List.filter_filter]
    apply List.filter_congr
    intro n hn
    rw [old n hn, Bool.and_comm]
  unfold ordI
  show ((_ ++ _ :: _ : List Nat)).filter _ = _
  rw [List.filter_append, List.filter_cons, f1, f1, nd_new]
  by_cases h : lv < x.h
  · rw [if_pos h, if_pos (by simpa using h)]
  · rw [if_neg h, if_neg (by simpa using h)]
    have hc : (chain ns ord lv).Pairwise fun a b => cmp (key ns a) (key ns b) < 0 := H.crise lv
    have := ord_split H x.ik
    unfold chain
    conv => rhs; rw [this, List.filter_append]
    rw [List.filter_filter, List.filter_filter, List.filter_filter, List.filter_filter]
    congr 1 <;> (apply List.filter_congr; intro n _; rw [Bool.and_comm])
/-- The links behind it. -/
theorem links_ins {ns : List N} {ord : List Nat} (H : Gd ns ord) (x : N) (lv : Nat) (f g : Nat → Nat) (hf : Ch f 0 (chain ns ord lv))
    (hlow : lv < x.h → g (lastB ns ord x.ik lv) = ns.length + 1 ∧ g (ns.length + 1) = f (lastB ns ord x.ik lv) ∧ ∀ y, y ≠ ns.length + 1 → y ≠ lastB ns ord x.ik lv → g y = f y)
    (hhigh : ¬ lv < x.h → ∀ y, y ≠ ns.length + 1 → g y = f y) : Ch g 0 (chain (ns ++ [x]) (ordI ns ord x.ik (ns.length + 1)) lv) := by
  have hmem : ∀ y, y ∈ 0 :: chain ns ord lv → y ≠ ns.length + 1 := by
    intro y hy
    rcases List.mem_cons.1 hy with rfl | hy
    · omega
    · have := (H.mem y).1 (mem_chain.1 hy).1; omega
  rw [chain_ins H]
  by_cases h : lv < x.h
  · rw [if_pos h]
    obtain ⟨h1, h2, h3⟩ := hlow h
    have hs : chain ns ord lv = (chain ns ord lv).filter (below ns x.ik) ++ (chain ns ord lv).filter (fun n => !below ns x.ik n) := by
      have := ord_split H x.ik
      unfold chain
      conv => lhs; rw [this, List.filter_append]
      rw [List.filter_filter, List.filter_filter, List.filter_filter, List.filter_filter]
      congr 1 <;> (apply List.filter_congr; intro n _; rw [Bool.and_comm])
    refine Ch.ins (f := f) (by omega) ?_ ?_ ?_ h1 h2 h3
    · rw [← hs]; exact hf
    · rw [← hs, List.nodup_cons]
      refine ⟨fun h0 => H.ne0 (mem_chain.1 h0).1 rfl, H.nodup.filter _⟩
    · rw [← hs]; exact fun h0 => hmem _ h0 rfl
  · rw [if_neg h]
    exact Ch.congr hf fun y hy => hhigh h y (hmem y hy)
theorem top_app (ns : List N) (x : N) : top (ns ++ [x]) = max (top ns) x.h := by unfold top; rw [List.foldl_append]; rfl
theorem Gd.empty : Gd [] [] := ⟨by intro n; simp; omega, List.Pairwise.nil, rfl, by simp⟩
end Go.Proofs.Ytefihoohdaegeaa.Sg
