/- The layout's plain bytes; what Encode's rounds keep. -/
import Derived.Test.YtnpeocoipodmfaaBs
import Derived.Test.YtnpeocoipodmfaaCp
namespace Go.Proofs.Ytnpeocoipodmfaa.Be
open Go.ChangeShapes Go.WideShapes Go.ChangeAt Go.RowKit
open Go.Proofs.Ytnpeocoipodmfaa.Gr
open Go.Proofs.Ytnpeocoipodmfaa.Ev
open Go.Proofs.Ytnpeocoipodmfaa.Bu
open Go.Proofs.Ytnpeocoipodmfaa.Bv
open Go.Proofs.Ytnpeocoipodmfaa.Bs
open Go.Proofs.Ytnpeocoipodmfaa.By (Row Bytes tx)
set_option linter.unusedVariables false
set_option linter.unusedSimpArgs false

theorem wp_append_run {P : Program} {w w' : World} {o : Oper} {a : Act} {K : Act → World → Prop} {Q : Exit → Act → World → Prop} (s x : Operand) (t tx : TypeId) (hop : o.op = Op.call { callee := Callee.builtin Builtin.append, args := #[s, x], argTypes := #[t, tx] })
    (u v v' : Value) (hs : a.eval s = u) (hx : a.eval x = v) (hrun : (Builtin.append_ #[t, tx] o.type #[u, v]).run P w = .ok v' w') (hK : K (a.put o.dst v') w') : o.wp P a w K Q := by
  unfold Oper.wp
  simp [execOp, hop, resolve, invoke, builtin, hs, hx, hrun, Result.andThen]
  exact hK
/-- One byte in a block of its own. -/
theorem one_byte {W : World} {g : Nat} {t : Int} (K : W.heap[g]? = some (.cells #[.int .u8 t] 5)) (ht : 0 ≤ t ∧ t ≤ 255) : eB.Sl W (some ⟨g, 0, none⟩) 1 1 [t] := by
  refine ⟨rfl, Nat.le_refl _, fun h => (by cases h), fun x hx => ?_, fun b o p h _ => ?_⟩
  · rw [List.mem_singleton] at hx; subst hx; exact ht
  · cases h
    refine ⟨rfl, fun i hi => ?_⟩
    obtain rfl : i = 0 := by omega
    intro j u hu
    have hj : j = 0 := by
      have := (List.getElem?_eq_some_iff.1 hu).1
      have h1 : (eB.cs ([t].getD 0 eB.z)).length = 1 := eB.len _
      omega
    subst hj
    have hv : u = .int .u8 t := by
      have : (eB.cs ([t].getD 0 eB.z))[0]? = some (.int .u8 t) := rfl
      rw [this] at hu
      exact (Option.some.inj hu).symm
    subst hv
    exact cell_of K 0 _ rfl
/-- append of one byte that lies in a block. -/
theorem app_src {W : World} {base : Nat} {v : Value} {l : List Int} (O : eB.Own W base v l) (hb : base ≤ W.heap.size) {g : Nat} {t : Int} (K : W.heap[g]? = some (.cells #[.int .u8 t] 5)) (ht : 0 ≤ t ∧ t ≤ 255) (hn : l.length + 1 ≤ 140737488355328) :
    ∃ a c W', (Builtin.append_ #[27, 27] 27 #[v, .slice (some ⟨g, 0, none⟩) 1 1]).run Try.prog W = .ok (.slice a (l.length + 1) c) W' ∧ eB.Own W' base (.slice a (l.length + 1) c) (l ++ [t]) ∧ Gw W W' v (.slice a (l.length + 1) c) := by
  obtain ⟨v', W', r, o, gr, q⟩ := El.app eB W base v l O (some ⟨g, 0, none⟩) 1 1 [t] (one_byte K ht) (by show (_ + 1) * 1 ≤ _; omega) hn hb
  obtain ⟨a, c, e⟩ := row_block o
  rw [List.length_append, List.length_singleton] at e
  subst e
  exact ⟨a, c, W', r, o, Gw.grown gr q⟩
/-- Nothing older has turned but v's own row. -/
def Ro (v : Value) (W0 W : World) : Prop := Fp (fun j => v.ownBlock = some j) W0 W
theorem Gw.ro {W0 W : World} {v v' : Value} (h : Gw W0 W v v') : Ro v W0 W := h.fp
theorem Ro.blk {W W1 : World} {base : Nat} {v : Value} {xs : List Int} (h : Ro v W W1) (o : eB.Own W base v xs) {g : Nat} {c : Array Value} {t : TypeId} (hb : W.heap[g]? = some (.cells c t)) (ht : (5 : Nat) ≠ t) : W1.heap[g]? = some (.cells c t) := by
  refine (Fp.block h g (blk_lt hb) (fun e => ?_)).trans hb
  obtain ⟨c1, e1⟩ := own_ty o g e
  rw [hb] at e1
  injection e1 with e1
  injection e1 with _ e1
  exact ht e1.symm
/-- What the rounds keep. -/
structure Bt (w W : World) (v : Value) (l : List Int) : Prop where
  own : eB.Own W w.heap.size v l
  lo : Below w.heap.size w W
theorem Bt.step {w W W' : World} {v v' : Value} {l l' : List Int} (h : Bt w W v l) (g : Gw W W' v v') (o : eB.Own W' w.heap.size v' l') : Bt w W' v' l' := ⟨o, h.lo.trans (g.low h.own h.lo.size)⟩
theorem Bt.later {w W W' : World} {v : Value} {l : List Int} (h : Bt w W v l) (b : Below W.heap.size W W') : Bt w W' v l := ⟨El.Own.later (E := eB) h.own b, Below.up h.lo b⟩
theorem Bt.start (w : World) : Bt w w (.slice none 0 0) [] := ⟨El.Own.nil _ _ _, Below.refl _ _⟩
/-- A place that goes. -/
def goB (p : Pl) : List Int := 4 :: vbs [p.l, p.n]
/-- A text: its length, then its bytes. -/
def txB (s : ByteArray) : List Int := Vb.vb s.size ++ tx s
/-- A file that comes. -/
def coB (x : Ad) : List Int := 5 :: vbs [x.l, x.f.n, x.f.z] ++ txB x.f.a ++ txB x.f.b ++ vbs [x.f.lo, x.f.hi]
def goL (ps : List Pl) : List Int := ps.flatMap goB
def coL (xs : List Ad) : List Int := xs.flatMap coB
def sdL (e : Ed) : List Int := sd 1 e.log ++ sd 2 e.nx ++ sd 3 e.sq
/-- An edit's bytes. -/
def enc (e : Ed) : List Int := sdL e ++ goL e.go ++ coL e.co
theorem goL_snoc (ps : List Pl) (p : Pl) : goL (ps ++ [p]) = goL ps ++ goB p := by simp [goL]
theorem coL_snoc (xs : List Ad) (x : Ad) : coL (xs ++ [x]) = coL xs ++ coB x := by simp [coL]
theorem goL_len : ∀ ps, (goL ps).length ≤ 21 * ps.length
  | [] => by simp [goL]
  | p :: r => by
    have := goL_len r
    have h2 := vbs_len [p.l, p.n]
    have e : goL (p :: r) = goB p ++ goL r := rfl
    rw [e]
    unfold goB
    simp only [List.length_append, List.length_cons, List.length_nil] at *
    omega
theorem tx_len' (s : ByteArray) : (tx s).length = s.size := by simp [tx]
theorem coB_len (x : Ad) (ha : x.f.a.size ≤ 1024) (hb : x.f.b.size ≤ 1025) : (coB x).length ≤ 2120 := by
  have h1 := vbs_len [x.l, x.f.n, x.f.z]
  have h2 := vbs_len [x.f.lo, x.f.hi]
  have h3 := Vb.vb_le x.f.a.size
  have h4 := Vb.vb_le x.f.b.size
  have h5 := tx_len' x.f.a
  have h6 := tx_len' x.f.b
  unfold coB txB
  simp only [List.length_append, List.length_cons, List.length_nil] at *
  omega
theorem coL_len : ∀ xs : List Ad, (∀ x ∈ xs, x.f.a.size ≤ 1024 ∧ x.f.b.size ≤ 1025) → (coL xs).length ≤ 2120 * xs.length
  | [], _ => by simp [coL]
  | x :: r, h => by
    have := coL_len r (fun y hy => h y (List.mem_cons_of_mem _ hy))
    have h2 := coB_len x (h x (by simp)).1 (h x (by simp)).2
    have e : coL (x :: r) = coB x ++ coL r := rfl
    rw [e]
    simp only [List.length_append, List.length_cons] at *
    omega
theorem sdL_len (e : Ed) : (sdL e).length ≤ 33 := by
  have h1 := sd_len 1 e.log
  have h2 := sd_len 2 e.nx
  have h3 := sd_len 3 e.sq
  unfold sdL
  simp only [List.length_append]
  omega
theorem txB_ok (s : ByteArray) (hs : s.size ≤ 140737488351232) : ∀ x ∈ txB s, 0 ≤ x ∧ x ≤ 255 := by
  intro x hx
  unfold txB at hx
  rcases List.mem_append.1 hx with h | h
  · exact Vb.vb_bytes _ ⟨by omega, by omega⟩ x h
  · exact By.tx_bytes s x h
theorem txB_len (s : ByteArray) : (txB s).length ≤ 10 + s.size := by
  have := Vb.vb_le s.size
  unfold txB
  rw [List.length_append, tx_len']
  omega
theorem putt_nil (s : ByteArray) (hs : s.size ≤ 140737488351232) (w : World) : Calls Try.prog 25 #[.slice none 0 0, .string s] w fun e w' => ∃ n c : Nat, e = .returned (.slice (some ⟨w.heap.size, 0, none⟩) n c) ∧ n ≤ 10 + s.size ∧ Row w' w.heap.size w.heap.size n c (txB s) ∧ Below w.heap.size w w' := by
  have hl := Vb.vb_le s.size
  refine (By.putt_any none 0 0 [] s w ⟨rfl, Nat.le_refl _, fun _ => ⟨rfl, rfl⟩, (fun y h => by cases h), (fun x h => by cases h)⟩ hs (by omega)).mono ?_
  rintro e w' ⟨c, rfl, R, b⟩
  rw [List.nil_append] at R
  change Row w' _ _ _ c (txB s) at R
  obtain ⟨n, hn⟩ : ∃ n, n = 0 + (Vb.vb s.size).length + s.size := ⟨_, rfl⟩
  rw [← hn] at R ⊢
  exact ⟨n, c, rfl, by omega, R, b⟩
end Go.Proofs.Ytnpeocoipodmfaa.Be
