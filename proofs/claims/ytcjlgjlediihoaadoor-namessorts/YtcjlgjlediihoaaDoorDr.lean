/- No step lowers the count of draws. -/
import Derived.Calls
import Derived.Below
import Derived.Sort.Grow
import Derived.Deep.Draws
namespace Go.Proofs.YtcjlgjlediihoaaDoor.Dr
open Go Go.RowKit
set_option linter.unusedVariables false
set_option linter.unusedSimpArgs false

def RM {α : Type} (d : Nat) : Result α → Prop
  | .ok _ w => d ≤ w.drawn
  | .halt _ w => d ≤ w.drawn
theorem RM.up {α : Type} {a b : Nat} {r : Result α} (h : a ≤ b) (k : RM b r) : RM a r := by
  cases r <;> exact Nat.le_trans h k
theorem ask_le {α : Type} (k : Ask α) : ∀ w : World, w.drawn ≤ (w.ask k).2.drawn := by
  induction k with
  | done a => intro w; exact Nat.le_refl _
  | ask what range k ih =>
    intro w
    simp only [World.ask]
    split
    · exact ih _ _
    · exact Nat.le_trans (Nat.le_succ _) (ih _ { w with drawn := w.drawn + 1 })
theorem sys_le (w : World) (c : Sys) : w.drawn ≤ (w.sys c).2.drawn := by
  have h := ask_le (Kernel.perform c w.os) w
  unfold World.sys
  split
  · exact Nat.le_refl _
  · rename_i r os w' _ he; rw [he] at h; exact h
theorem view_le {P : Program} {w w' : World} {a k : Addr} {u : TypeId} {v : Value} {b : Bool} {l : List Addr} (h : w.viewStore P a u k v b = .ok (w', l)) : w'.drawn = w.drawn := by
  unfold World.viewStore at h
  simp only [bind, Except.bind, pure, Except.pure, throw, throwThe, MonadExceptOf.throw] at h
  repeat' (split at h)
  all_goals (first | (cases h; done) | (cases h; rfl))
theorem far_le {P : Program} {w w' : World} {a : Addr} {v : Value} {b : Bool} {l : List Addr} (h : w.farStore P a v b = .ok (w', l)) : w'.drawn = w.drawn := by
  unfold World.farStore at h
  split at h
  · split at h
    · rename_i r hr; cases h; exact view_le hr
    · cases h
  · cases h
theorem freeze_eq (w : World) (a : Addr) (n : Nat) : (w.freeze a n).drawn = w.drawn := by
  unfold World.freeze; split <;> rfl
theorem run_le {α : Type} (P : Program) (s : Sem α) : ∀ w : World, RM w.drawn (s.run P w) := by
  induction s with
  | pure a => intro w; exact Nat.le_refl _
  | load m a k ih =>
    intro w; simp only [Sem.run]
    split
    · exact ih _ _
    · split
      · exact ih _ _
      · exact Nat.le_refl _
  | store m a v k ih =>
    intro w
    cases v <;> simp only [Sem.run] <;> first | exact Nat.le_refl _ | (
      split
      · split
        · exact Nat.le_refl _
        · exact ih (w.setCell a _)
      · split
        · rename_i w' l hf; have := far_le hf; exact RM.up (Nat.le_of_eq this.symm) (ih w')
        · exact Nat.le_refl _)
  | new o k ih => intro w; exact ih _ { w with heap := w.heap.push o }
  | shape r k ih => intro w; exact ih _ w
  | freeze a n k ih => intro w; exact RM.up (Nat.le_of_eq (freeze_eq w a n).symm) (ih (w.freeze a n))
  | frozen a k ih => intro w; exact ih _ w
  | getObj r k ih =>
    intro w; simp only [Sem.run]; split
    · exact Nat.le_refl _
    · exact ih _ _
    · exact Nat.le_refl _
  | setObj r o k ih =>
    intro w; simp only [Sem.run]; split
    · exact Nat.le_refl _
    · exact ih { w with heap := w.heap.setIfInBounds r o }
    · exact Nat.le_refl _
  | choose q k ih =>
    intro w; simp only [Sem.run]; split
    · exact ih _ _
    · exact RM.up (Nat.le_succ _) (ih _ { w with drawn := w.drawn + 1 })
  | sys c k ih => intro w; exact RM.up (sys_le w c) (ih _ _)
  | program k ih => intro w; exact ih _ w
  | mark m k ih => intro w; exact ih w
  | halt h => intro w; exact Nat.le_refl _

theorem ok_le {α : Type} {P : Program} {s : Sem α} {w w' : World} {a : α} (h : s.run P w = .ok a w') : w.drawn ≤ w'.drawn := by
  have := run_le P s w; rw [h] at this; exact this
theorem halt_le {α : Type} {P : Program} {s : Sem α} {w w' : World} {a : Halt} (h : s.run P w = .halt a w') : w.drawn ≤ w'.drawn := by
  have := run_le P s w; rw [h] at this; exact this
def GM (d : Nat) : GStep → Prop
  | .go _ w _ | .comm _ _ _ _ w _ | .spawn _ _ w _ | .count _ w _ | .timer _ _ w _ | .alone _ _ w _ | .newcoro _ _ _ w _ | .coroswitch _ _ _ w _ | .collect _ w _ | .watch _ w _ => d ≤ w.drawn
  | .ended .. => True
theorem GM.after {d : Nat} {es : Array Event} {s : GStep} (h : GM d s) : GM d (GStep.after es s) := by cases s <;> exact h
theorem GM.ite {d : Nat} {c : Prop} [Decidable c] {a b : GStep} (ha : GM d a) (hb : GM d b) : GM d (if c then a else b) := by split <;> assumption
theorem endWith_gm (d : Nat) (w : World) (fd : Nat) (t : ByteArray) (o : Outcome) : GM d (endWith w fd t o) := by
  unfold endWith; repeat' split
  all_goals trivial
theorem dieOf_gm {d : Nat} {w : World} (h : d ≤ w.drawn) (fr : Frame) (l : List ByteArray) (m : String) (b : Bool) : GM d (dieOf fr l m b w) := h
theorem endThrow_gm {d : Nat} {w : World} (h : d ≤ w.drawn) (fr : Frame) (m : String) : GM d (endThrow fr m w) := h
theorem endPrinting_gm {d : Nat} {w : World} (h : d ≤ w.drawn) (P : Program) (fr : Frame) (v : Value) : GM d (endPrinting P fr v w) := by
  unfold endPrinting
  simp only
  split
  · exact h
  · trivial
theorem endFatal_gm {d : Nat} {w : World} (h : d ≤ w.drawn) (P : Program) (fr : Frame) (cs : List Frame) (dy : Option Dying) (m : String) : GM d (endFatal P fr cs dy m w) := by
  unfold endFatal
  simp only
  split
  · rename_i h1; exact dieOf_gm (Nat.le_trans h (ok_le h1)) _ _ _ _
  · trivial
  · trivial
theorem writeOn_gm {d : Nat} {w : World} (h : d ≤ w.drawn) (P : Program) (fr : Frame) (dy : Dying) (f : Fatal) : GM d (writeOn P fr dy f w) := by
  unfold writeOn
  simp only [Sem.runT_eq]
  split
  · trivial
  · split
    · rename_i h1; injection h1 with h1 h2; exact Nat.le_trans h (ok_le h1)
    · rename_i h1; injection h1 with h1 h2; exact Nat.le_trans h (halt_le h1)
    · trivial
    · trivial
theorem doReturn_gm {d : Nat} {w : World} (h : d ≤ w.drawn) (P : Program) (mn : Bool) (fr : Frame) (cs : List Frame) (dy : Option Dying) (v : Value) : GM d (doReturn P mn fr cs dy v w) := by
  unfold doReturn
  simp only
  repeat' split
  all_goals first | exact h | trivial
theorem die_gm {d : Nat} {w : World} (h : d ≤ w.drawn) (P : Program) (fr : Frame) (dy : Dying) : GM d (die P fr dy w) := by
  unfold die
  simp only [Sem.runT_eq]
  split
  · exact writeOn_gm h _ _ _ _
  · split
    · split
      · exact h
      · exact endWith_gm _ _ _ _ _
    · split
      · exact h
      · split
        · rename_i h1; exact Nat.le_trans h (ok_le h1)
        · trivial
      · apply GM.after
        split
        · rename_i h1; exact Nat.le_trans h (ok_le h1)
        · rename_i h1; exact Nat.le_trans h (ok_le h1)
        · trivial
        · rename_i h1; exact endPrinting_gm (Nat.le_trans h (halt_le h1)) _ _ _
        · trivial
      · trivial

theorem callDeferred_gm {d : Nat} {w : World} (h : d ≤ w.drawn) (P : Program) (fr : Frame) (cs : List Frame) (dy : Option Dying) (de : Deferred) : GM d (callDeferred P fr cs dy de w) := by
  unfold callDeferred
  simp only [Sem.runT_eq]
  refine GM.ite trivial (GM.after ?_)
  split
  all_goals first
    | trivial
    | (rename_i h1; exact Nat.le_trans h (ok_le h1))
    | (rename_i h1; exact Nat.le_trans h (halt_le h1))
    | (rename_i h1; exact endFatal_gm (Nat.le_trans h (halt_le h1)) _ _ _ _ _)
    | (rename_i h1; exact endThrow_gm (Nat.le_trans h (halt_le h1)) _ _)
    | (rename_i h1; have hq := Nat.le_trans h (ok_le h1); split <;> exact hq)
    | (rename_i h1 _ _ _ _ _ _ _ _ _ _ _ _ _ _ _ _ _ _ _ _; exact Nat.le_trans h (ok_le h1))
    | skip
theorem unwind_gm {d : Nat} {w : World} (h : d ≤ w.drawn) (P : Program) (mn : Bool) (fr : Frame) (cs : List Frame) (dy : Option Dying) : GM d (unwind P mn fr cs dy w) := by
  unfold unwind
  simp only [Sem.runT_eq]
  split
  · apply GM.after
    split
    · rename_i h1; exact Nat.le_trans h (ok_le h1)
    · trivial
  · exact callDeferred_gm h _ _ _ _ _
  · split
    · trivial
    · split
      · trivial
      · split
        · exact h
        · split
          · split
            · exact h
            · split
              · rename_i h1; exact Nat.le_trans h (ok_le h1)
              · trivial
              · trivial
          · split
            · exact endPrinting_gm h _ _ _
            · trivial
    · split
      · exact doReturn_gm h _ _ _ _ _ _
      · apply GM.after
        split
        · rename_i h1; exact doReturn_gm (Nat.le_trans h (ok_le h1)) _ _ _ _ _ _
        · trivial
        · trivial
theorem early_gm {d : Nat} {w : World} (h : d ≤ w.drawn) (P : Program) (fr : Frame) (cs : List Frame) (dy : Option Dying) (g : Nat) : GM d (early P fr cs dy g w) := by
  unfold early
  simp only
  have hn : ∀ w' : World, d ≤ w'.drawn → GM d (match w'.heap[g]? with
    | some (.pending c elem) =>
      .go { frame := fr, callers := cs, status := .running, dying := dy } { w' with heap := w'.heap.setIfInBounds g (.cells c elem) }
    | _ => .ended (.stuck "early: the variable does not wait" (fr.pos P)) w') := by
    intro w' hw
    split
    · exact hw
    · trivial
  repeat' split
  all_goals first
    | trivial
    | exact hn _ h
    | exact h
    | (rename_i h1; exact hn _ (Nat.le_trans h (ok_le h1)))
    | (rename_i h1; exact Nat.le_trans h (ok_le h1))
    | (rename_i h1 _ _ _ _; have hq := Nat.le_trans h (ok_le h1); exact hq)
theorem apply_gm {d : Nat} {w : World} (h : d ≤ w.drawn) (P : Program) (l : Bool) (fr : Frame) (cs : List Frame) (dy : Option Dying) (s : Sem Next) : GM d (stepG.apply P l fr cs dy s w) := by
  unfold stepG.apply
  simp only [Sem.runT_eq]
  have e1 : (if l = true then (Sem.run P s w, Sem.events P s w #[]) else (Sem.run P s w, #[])).1 = Sem.run P s w := by split <;> rfl
  generalize (if l = true then (Sem.run P s w, Sem.events P s w #[]) else (Sem.run P s w, #[])) = x at e1 ⊢
  obtain ⟨r, es⟩ := x
  simp only at e1 ⊢
  subst e1
  apply GM.after
  split
  all_goals first
    | trivial
    | (rename_i h1; exact Nat.le_trans h (ok_le h1))
    | (rename_i h1; exact Nat.le_trans h (halt_le h1))
    | (rename_i h1; exact endFatal_gm (Nat.le_trans h (halt_le h1)) _ _ _ _ _)
    | (rename_i h1; exact endThrow_gm (Nat.le_trans h (halt_le h1)) _ _)
    | (rename_i h1; exact early_gm (Nat.le_trans h (halt_le h1)) _ _ _ _ _)
    | (rename_i h1; have hq := Nat.le_trans h (ok_le h1); split <;> exact hq)
    | (rename_i h1; have hq := Nat.le_trans h (ok_le h1); exact GM.ite hq hq)
    | skip
theorem oper_gm {d : Nat} {w : World} (h : d ≤ w.drawn) (P : Program) (l : Bool) (fr : Frame) (cs : List Frame) (dy : Option Dying) : GM d (stepG.oper P l fr cs dy w) := by
  unfold stepG.oper
  split
  · trivial
  · split <;> exact apply_gm h _ _ _ _ _ _
theorem exec_gm {d : Nat} {w : World} (h : d ≤ w.drawn) (P : Program) (mn l : Bool) (fr : Frame) (cs : List Frame) (dy : Option Dying) : GM d (stepG.exec P mn l fr cs dy w) := by
  unfold stepG.exec
  extract_lets go to lost leave
  have hgo : ∀ (fr : Frame) (w' : World), d ≤ w'.drawn → GM d (go fr w') := fun _ _ hw => hw
  have hto : ∀ t : List Item, GM d (to t) := fun _ => h
  have hlost : ∀ s : String, GM d (lost s) := fun _ => trivial
  have hleave : ∀ j : Option Code, GM d (leave j) := by
    intro j
    show GM d (match fr.roundOf with
      | none => _
      | some l => _)
    split
    · exact GM.ite h trivial
    · simp only [Sem.runT_eq]
      apply GM.after
      split
      · rename_i h1; exact doReturn_gm (Nat.le_trans h (ok_le h1)) _ _ _ _ _ _
      · trivial
  clear_value go to lost leave
  split
  · exact hleave _
  · exact hleave _
  · exact hto _
  · exact hto _
  · exact hto _
  · exact hto _
  · exact hto _
  · split
    · exact hto _
    · exact hlost _
  · exact hto _
  · exact hto _
  · exact hto _
  · exact hto _
  · rename_i id k _
    cases exitTo id k
    · exact hleave _
    · exact hto _
  · rename_i id k _
    cases gotoIn id k
    · exact hleave _
    · exact hto _
  · simp only [Sem.runT_eq]
    apply GM.after
    split
    · rename_i h1; exact apply_gm (Nat.le_trans h (ok_le h1)) _ _ _ _ _ _
    · trivial
  · trivial
  · exact apply_gm h _ _ _ _ _ _
  · simp only [Sem.runT_eq]
    apply GM.after
    split
    · rename_i h1; exact hgo _ _ (Nat.le_trans h (ok_le h1))
    · rename_i h1; exact hgo _ _ (Nat.le_trans h (halt_le h1))
    · trivial
  · trivial
  · exact apply_gm h _ _ _ _ _ _
  · rename_i row args _ _
    cases Extern.next row
    · exact hlost _
    · exact apply_gm h _ _ _ _ _ _
  · refine GM.ite (hto _) ?_
    split
    · rename_i h1; exact hgo _ _ (Nat.le_trans h (ok_le h1))
    · trivial
  · exact hto _
  · exact GM.ite (oper_gm h _ _ _ _ _) (hgo _ _ h)
theorem stepG_gm (P : Program) (mn : Bool) (g : Goroutine) (w : World) (l : Bool) : GM w.drawn (stepG P mn g w l) := by
  unfold stepG
  obtain ⟨fr, cs, st, dy, off⟩ := g
  simp only
  split
  · exact die_gm (Nat.le_refl _) _ _ _
  · exact exec_gm (Nat.le_refl _) _ _ _ _ _ _
  · exact unwind_gm (Nat.le_refl _) _ _ _ _ _
/-! ### The machine -/
def SM (d : Nat) : Stepped → Prop
  | .next m => d ≤ m.world.drawn
  | .ended .. => True
theorem SM.up {a b : Nat} {s : Stepped} (h : a ≤ b) (k : SM b s) : SM a s := by
  cases s
  · exact Nat.le_trans h k
  · trivial
theorem SM.ite {d : Nat} {c : Prop} [Decidable c] {a b : Stepped × Array MemOp} (ha : SM d a.1) (hb : SM d b.1) : SM d (if c then a else b).1 := by split <;> assumption
theorem waiting_eq {r : Rest} {cs : Array CommCase} {w w' : World} (h : waitingAt r cs w = some w') : w'.drawn = w.drawn := by
  unfold waitingAt at h
  split at h
  · split at h
    · cases h; rfl
    · cases h
  · cases h; rfl
theorem communicate_sm (P : Program) (r : Rest) (gs : Array Goroutine) (i : Nat) (g : Goroutine) (cs : Array CommCase) (b : Bool) (sh : CommShape) (w : World) : SM w.drawn (communicate P r gs i g cs b sh w).1 := by
  unfold communicate
  extract_lets put illMade me other ready
  have hput : ∀ (g : Goroutine) (gs : Array Goroutine) (w' : World) (ops : Array MemOp), w.drawn ≤ w'.drawn → SM w.drawn (put g gs w' ops).1 := fun _ _ _ _ hw => hw
  clear_value put illMade me other ready
  refine SM.ite trivial ?_
  refine SM.ite (SM.ite ?_ (hput _ _ _ _ (Nat.le_refl _))) ?_
  · split
    · rename_i h1; exact Nat.le_of_eq (waiting_eq h1).symm
    · trivial
  · split
    · trivial
    · rename_i h1
      have hq := ok_le h1
      extract_lets r'
      clear_value r'
      split
      · split
        · rename_i h2; exact hput _ _ _ _ (Nat.le_trans hq (halt_le h2))
        · trivial
      · exact hput _ _ _ _ hq
      · exact hput _ _ _ _ hq
      · extract_lets v buf
        split
        · exact hput _ _ _ _ hq
        · split
          · rename_i h2; have h3 := ok_le h2; exact hput _ _ _ _ (Nat.le_trans hq h3)
          · trivial
      · exact hput _ _ _ _ hq
      · exact hput _ _ _ _ hq
      · trivial
theorem look_sm (P : Program) (gs : Array Goroutine) (r : Rest) (w : World) : SM w.drawn (look P gs r w) := by
  unfold look
  simp only
  split
  · split
    · trivial
    · split
      · trivial
      · split
        · rename_i h1; have hq := ok_le h1; exact hq
        · trivial
        · trivial
  · trivial
theorem drain_eq (w : World) (c : Nat) : (drain w c).2.drawn = w.drawn := by
  unfold drain; split <;> rfl
theorem retime_eq (m : Machine) (k : Nat) (t : Timer) (a b : Nat) : (retime m k t a b).2.world.drawn = m.world.drawn := by
  unfold retime
  simp only
  cases t.chan
  · rfl
  · exact drain_eq _ _
theorem opened_eq {m m' : Machine} {v : Addr} (h : timerOp.opened m v = some m') : m'.world.drawn = m.world.drawn := by
  unfold timerOp.opened at h
  split at h
  · split at h
    · cases h; rfl
    · cases h
  · cases h; rfl
theorem named_eq {m : Machine} {v : Addr} {f : Nat → Timer → Value × Machine} {x : Value × Machine} {n : Nat} (hf : ∀ k t, (f k t).2.world.drawn = n) (h : timerOp.named m v f = .ok x) : x.2.world.drawn = n := by
  unfold timerOp.named at h
  split at h
  · cases h; exact hf _ _
  · cases h
theorem timerOp_eq {m : Machine} {o : TimerOp} {x : Value × Machine} (h : timerOp m o = .ok x) : x.2.world.drawn = m.world.drawn := by
  unfold timerOp at h
  split at h
  · split at h
    · cases h; rfl
    · split at h
      · split at h
        · cases h
        · cases h; rfl
      · cases h
  · exact named_eq (fun _ _ => retime_eq _ _ _ _ _) h
  · split at h
    · rename_i h1
      rw [← opened_eq h1]
      exact named_eq (fun _ _ => retime_eq _ _ _ _ _) h
    · cases h
  · simp only at h; cases h; rfl
theorem serve_sm (P : Program) (m : Machine) (k : Nat) : SM m.world.drawn (serve P m k) := by
  unfold serve
  split
  · trivial
  · exact Nat.le_refl _
  · extract_lets a b
    split
    · trivial
    · exact Nat.le_refl _
theorem runT_sm (P : Program) (m : Machine) (i : Nat) (l : Bool) : SM m.world.drawn (Go.runT P m i l).1 := by
  unfold Go.runT
  obtain ⟨w, gs, rest⟩ := m
  simp only
  have hg := stepG_gm P (i == 0) (gs.swapAt! i { (default : Goroutine) with status := .finished }).1 w l
  generalize stepG P (i == 0) (gs.swapAt! i { (default : Goroutine) with status := .finished }).1 w l = s at hg ⊢
  split
  · trivial
  · exact SM.up hg (communicate_sm _ _ _ _ _ _ _ _ _)
  · exact hg
  · exact hg
  · split
    · trivial
    · exact hg
  · exact hg
  · exact SM.up hg (look_sm _ _ _ _)
  · exact hg
  · exact hg
  · split
    · exact hg
    · split
      · rename_i h1; cases h1; exact hg
      · trivial
    · trivial
  · split
    · rename_i h1; have hq := timerOp_eq h1; exact Nat.le_trans hg (Nat.le_of_eq hq.symm)
    · split
      · rename_i h1; cases h1; exact hg
      · trivial
    · trivial
    · trivial
def VM (d : Nat) : Go.Move → Prop
  | .goroutine m _ => d ≤ m.world.drawn
  | .machine s _ => SM d s
theorem VM.up {a b : Nat} {s : Go.Move} (h : a ≤ b) (k : VM b s) : VM a s := by
  cases s
  · exact Nat.le_trans h k
  · exact SM.up h k
theorem askOn_vm (P : Program) (m : Machine) : VM m.world.drawn (askOn P m) := by
  unfold askOn
  extract_lets mono rs ds pick
  have hpick : ∀ m : Machine, VM m.world.drawn (pick m) := by
    intro m
    show VM m.world.drawn (match (choose (.sched rs.length)).run P m.world with
      | .halt _ w => _
      | .ok k world => _)
    split
    · trivial
    · rename_i h1
      have hq := ok_le h1
      split
      · exact hq
      · split
        · trivial
        · rename_i h2; exact Nat.le_trans hq (ok_le h2)
  clear_value pick rs ds mono
  split
  · trivial
  · rename_i h1
    have hq := ok_le h1
    simp only
    split
    · exact SM.up hq (serve_sm _ _ _)
    · split
      · split
        · exact hq
        · split
          · exact hq
          · split
            · trivial
            · trivial
      · split
        · exact VM.up hq (hpick _)
        · split
          · trivial
          · rename_i h2; exact VM.up (Nat.le_trans hq (ok_le h2)) (hpick _)
          · rename_i h2; have h3 := ok_le h2; exact Nat.le_trans hq h3
          · rename_i h2; exact VM.up (Nat.le_trans hq (ok_le h2)) (hpick _)
theorem next_le {P : Program} {gs : Array Goroutine} {r : Rest} {w : World} {m : Machine} (h : look P gs r w = .next m) : w.drawn ≤ m.world.drawn := by
  have h3 := look_sm P gs r w
  rw [h] at h3
  exact h3
theorem ask_vm (P : Program) (m : Machine) : VM m.world.drawn (Go.ask P m) := by
  unfold Go.ask
  split
  · split
    · trivial
    · rename_i h1
      have hq := ok_le h1
      have hl := fun w' => look_sm P m.gs m.rest w'
      split
      · rename_i h2
        exact VM.up (Nat.le_trans hq (next_le h2)) (askOn_vm _ _)
      · exact SM.up hq (hl _)
    · rename_i h1
      exact VM.up (ok_le h1) (askOn_vm _ _)
  · exact askOn_vm _ _
theorem move_vm (P : Program) (m : Machine) : VM m.world.drawn (Go.move P m) := by
  unfold Go.move
  split
  · split
    · exact Nat.le_refl _
    · trivial
  · split
    · split
      · exact Nat.le_refl _
      · exact ask_vm P { m with rest := { m.rest with slice := none } }
    · exact ask_vm _ _
theorem step_sm (P : Program) (m : Machine) : SM m.world.drawn (Go.step P m) := by
  unfold Go.step Go.stepT
  have h := move_vm P m
  split
  · rename_i h1; rw [h1] at h; exact SM.up h (runT_sm _ _ _ _)
  · rename_i h1; rw [h1] at h; exact h
theorem runN_sm (P : Program) (n : Nat) : ∀ m : Machine, SM m.world.drawn (Go.runN P n m) := by
  induction n with
  | zero => intro m; exact Nat.le_refl _
  | succ n ih =>
    intro m
    have h := step_sm P m
    simp only [Go.runN]
    split
    · rename_i h1; rw [h1] at h; exact SM.up h (ih _)
    · exact h
theorem steps_le {P : Program} {m m' : Machine} (h : Steps P m m') : m.world.drawn ≤ m'.world.drawn := by
  obtain ⟨n, hn⟩ := h
  have := runN_sm P n m
  rw [hn] at this
  exact this
/-- A call that answers has lowered no count. -/
theorem calls_le {P : Program} {f : FuncId} {args : Array Value} {w : World} {R : Ending → World → Prop} (h : Calls P f args w R) : Calls P f args w fun e w' => R e w' ∧ (e ≠ .outgrown → w.drawn ≤ w'.drawn) := by
  intro cs
  obtain ⟨e, w', fr, hR, hc, hf, hl⟩ := h cs
  refine ⟨e, w', fr, ⟨hR, fun hn => ?_⟩, hc, hf, hl⟩
  cases e with
  | returned v => exact steps_le hc
  | panicked c => exact steps_le hc
  | outgrown => exact absurd rfl hn
/-- What lies below all that was there: the world has grown, and drawn. -/
theorem grow_of {w w' : World} (h : Below w.heap.size w w') (hd : w.drawn ≤ w'.drawn) : ∃ q os, w' = Sort.grow (w.drewN q) os := by
  refine ⟨w'.drawn - w.drawn, w'.heap.extract w.heap.size w'.heap.size, ?_⟩
  obtain ⟨h1, h2, h3, h4, h5⟩ := h
  have e1 : w'.heap = w.heap ++ w'.heap.extract w.heap.size w'.heap.size := by
    apply Array.ext_getElem?
    intro k
    rcases Nat.lt_or_ge k w.heap.size with hk | hk
    · rw [h5 k hk, Array.getElem?_append_left hk]
    · rw [Array.getElem?_append_right hk, Array.getElem?_extract]
      rw [show w.heap.size + (k - w.heap.size) = k by omega]
      split
      · rfl
      · rw [Array.getElem?_eq_none]; omega
  cases w' with | mk heap tape drawn os output =>
  cases w with | mk heap0 tape0 drawn0 os0 output0 =>
  simp only at h1 h2 h3 hd e1
  subst h1 h2 h3
  simp only [Sort.grow, World.drewN]
  rw [← e1]
  congr 1
  omega
/-- A contract that tells Below tells the equation. -/
theorem calls_grown {P : Program} {f : FuncId} {args : Array Value} {w : World} {v : Value} {Q : Prop} (h : Calls P f args w fun e w' => e = .returned v ∧ Below w.heap.size w w') : Calls P f args w fun e w' => e = .returned v ∧ ∃ q os, w' = Sort.grow (w.drewN q) os :=
  (calls_le h).mono fun e w' ⟨⟨he, hb⟩, hd⟩ => ⟨he, grow_of hb (hd (by rw [he]; intro hx; cases hx))⟩
#print axioms calls_grown
end Go.Proofs.YtcjlgjlediihoaaDoor.Dr
