/- VersionBack walked. -/
import Derived.Test.YtkpihibeohjfnaaBx
import Derived.Test.YtkpihibeohjfnaaOn
import Derived.Test.YtkpihibeohjfnaaSm
import Derived.BigQuiet
namespace Go.Proofs.Ytkpihibeohjfnaa.Lk
open Go.ChangeShapes Go.WideShapes Go.ChangeAt Go.RowKit
open Go.Proofs.Ytkpihibeohjfnaa.Gr
open Go.Proofs.Ytkpihibeohjfnaa.Ev
open Go.Proofs.Ytkpihibeohjfnaa.Oe
open Go.Proofs.Ytkpihibeohjfnaa.Lv
open Go.Proofs.Ytkpihibeohjfnaa.Vp
open Go.Proofs.Ytkpihibeohjfnaa.Vq
open Go.Proofs.Ytkpihibeohjfnaa.Vr
open Go.Proofs.Ytkpihibeohjfnaa.Vt
open Go.Proofs.Ytkpihibeohjfnaa.Vu (cell_later)
open Go.Proofs.Ytkpihibeohjfnaa.Ou
open Go.Proofs.Ytkpihibeohjfnaa.To (tk)
open Go.Proofs.Ytkpihibeohjfnaa.As (wp_append_run)
open Go.Proofs.Ytkpihibeohjfnaa.On
open Go.Proofs.Ytkpihibeohjfnaa.Fd
open Go.Proofs.Ytkpihibeohjfnaa.Bp (vld_parts)
open Go.Proofs.Ytkpihibeohjfnaa.Sq
open Go.Proofs.Ytkpihibeohjfnaa.Sr
open Go.Proofs.Ytkpihibeohjfnaa.Ay
open Go.Proofs.Ytkpihibeohjfnaa.Bx
open Go.Proofs.Ytkpihibeohjfnaa.Sm (same_any)
set_option linter.unusedVariables false
set_option linter.unusedSimpArgs false

theorem fndL_in {num : Int} {f : Fi} : ∀ {L : List (List Fi)} {k0 k : Nat}, fndL num k0 L = some (k, f) → ∃ fs ∈ L, f ∈ fs
  | [], _, _, h => by simp [fndL] at h
  | fs :: r, k0, k, h => by
    unfold fndL at h
    cases h1 : fs.find? (fun f => f.n == num) with
    | some g =>
      rw [h1] at h
      injection h with h
      injection h with _ h
      subst h
      exact ⟨fs, by simp, List.mem_of_find?_eq_some h1⟩
    | none =>
      rw [h1] at h
      obtain ⟨fs', h2, h3⟩ := fndL_in h
      exact ⟨fs', by simp [h2], h3⟩
theorem lvs_ok {w : World} {a : Option Addr} {len cap : Nat} {L : List (List Fi)} (H : Lvs w a len cap L) : ∀ fs ∈ L, ∀ f ∈ fs, f.ok := by
  obtain ⟨xs, h, rfl⟩ := H
  intro fs hfs f hf
  obtain ⟨x, hx, rfl⟩ := List.mem_map.1 hfs
  exact (h.ok x hx).ok f hf
set_option maxRecDepth 100000 in
set_option maxHeartbeats 1000000 in
theorem back_arg (a : Option Addr) (len cap : Nat) (L : List (List Fi)) (v : Value) (e : Ed) (w : World) (H : Lvs w a len cap L) (HE : EV w v e) (hb : wL L + wE e ≤ 1048576) (hv : vld L = false) :
    Calls Try.prog 7 #[.slice a len cap, v] w fun en w' => en = .returned (.bool true) ∧ Below w.heap.size w w' := by
  have hw : wL L ≤ 1048576 := by omega
  have hwe : e.go.length + wsum wA e.co ≤ 1048576 := by unfold wE at hb; omega
  have hg8 : e.go.length ≤ 1048576 := by omega
  have hcl := wsum_len wA (fun x => by unfold wA wF; omega) e.co
  have hc8 : e.co.length ≤ 1048576 := by omega
  have hap : wL (ap L e.go e.co) ≤ 1048576 := by have := ap_w L e.go e.co; unfold wE at hb; omega
  have c2 : Hid (∀ W, Below w.heap.size w W → Calls Try.prog 13 #[.slice a len cap, v] W fun en w' => ApP W L e.go e.co len en w') := fun W b => apply_any a len cap L v e W (H.later b) (HE.later b) hw hg8 hc8 hap
  have c3 : Hid (∀ W, Below w.heap.size w W → Calls Try.prog 11 #[.slice a len cap] W fun e w' => e = .returned (.bool (vld L)) ∧ Below W.heap.size W w') := fun W b => valid_any a len cap L W (H.later b) hw
  have c4 : Hid (∀ W, Below w.heap.size w W → Calls Try.prog 13 #[.slice a len cap, v] W fun en w' => en = .returned (.tuple #[.slice none 0 0, .int .i64 2]) ∧ Below W.heap.size W w') := by
    intro W b
    refine (c2.out W b).mono ?_
    rintro en w' hp
    cases hp with
    | arg _ h1 b => exact ⟨rfl, b⟩
    | ver _ h1 h2 b => rw [hv] at h1; cases h1
    | ok _ g xs h1 h2 o e => rw [hv] at h1; cases h1
  clear c2
  rw [hv] at c3
  obtain ⟨lg, nx, sq, ps, co⟩ := e
  obtain ⟨hok, pa, pc, ca, cc, rfl, HP, HC⟩ := HE
  unfold ev at *
  dsimp only at *
  generalize hpn' : ps.length = pn at *
  generalize hcn' : co.length = cn at *
  have hpn := hpn'.symm
  have hcn := hcn'.symm
  clear hpn' hcn'
  obtain ⟨gx, hgx⟩ : ∃ g, g = w.heap.size := ⟨_, rfl⟩
  obtain ⟨W1, hW1⟩ : ∃ W, W = w.alloc (.cells #[.int .i64 lg, .int .i64 nx, .int .u64 sq, .slice pa pn pc, .slice ca cn cc] 28) := ⟨_, rfl⟩
  have kx : W1.heap[gx]? = some (.cells #[.int .i64 lg, .int .i64 nx, .int .u64 sq, .slice pa pn pc, .slice ca cn cc] 28) := by rw [hW1, hgx]; exact new_at _ _
  have bx : Below w.heap.size w W1 := by rw [hW1]; exact box_below _ _
  have c1 := hid (one_any W1)
  have hce : Hid (∀ W, Below W1.heap.size W1 W → W.heap[gx]? = some (.cells #[.int .i64 lg, .int .i64 nx, .int .u64 sq, .slice pa pn pc, .slice ca cn cc] 28)) := fun W b => (b.block _ (blk_lt kx)).trans kx
  replace bx := hid bx
  replace hW1 := hid hW1
  replace hgx := hid hgx
  clear kx
  clear hg8 hc8 hcl hap hwe hw hb HP HC H hok hpn hcn hv
  go_enter Try.func7, Try.ntmps7
  go_wp2_with (first | (go_at_call 22; rw [← hW1.out, ← hgx.out]; refine c1.out.mono ?_; rintro e w2 ⟨rfl, b2⟩; have kk := hce.out _ b2; have f0 := cell_of kk 0 _ rfl; have f1 := cell_of kk 1 _ rfl; have f2 := cell_of kk 2 _ rfl; have f3 := cell_of kk 3 _ rfl; have f4 := cell_of kk 4 _ rfl; clear kk; replace b2 := hid (Below.up bx.out b2)) | (go_at_call 13; refine (c4.out _ b2.out).mono ?_; rintro e w3 ⟨rfl, b3⟩; replace b3 := hid (Below.up b2.out b3); clear f0 f1 f2 f3 f4) | (go_at_call 11; refine (c3.out _ b3.out).mono ?_; rintro e w4 ⟨rfl, b4⟩; replace b4 := hid (Below.up b3.out b4)))
  go_ret
  exact ⟨rfl, b4.out⟩
set_option maxRecDepth 100000 in
set_option maxHeartbeats 1000000 in
theorem back_ver (a : Option Addr) (len cap : Nat) (L : List (List Fi)) (v : Value) (e : Ed) (w : World) (H : Lvs w a len cap L) (HE : EV w v e) (hb : wL L + wE e ≤ 1048576) (hv : vld L = true) (hg : good L e.go e.co = false) :
    Calls Try.prog 7 #[.slice a len cap, v] w fun en w' => en = .returned (.bool true) ∧ Below w.heap.size w w' := by
  have hw : wL L ≤ 1048576 := by omega
  have hwe : e.go.length + wsum wA e.co ≤ 1048576 := by unfold wE at hb; omega
  have hg8 : e.go.length ≤ 1048576 := by omega
  have hcl := wsum_len wA (fun x => by unfold wA wF; omega) e.co
  have hc8 : e.co.length ≤ 1048576 := by omega
  have hap : wL (ap L e.go e.co) ≤ 1048576 := by have := ap_w L e.go e.co; unfold wE at hb; omega
  have c2 : Hid (∀ W, Below w.heap.size w W → Calls Try.prog 13 #[.slice a len cap, v] W fun en w' => ApP W L e.go e.co len en w') := fun W b => apply_any a len cap L v e W (H.later b) (HE.later b) hw hg8 hc8 hap
  have c3 : Hid (∀ W, Below w.heap.size w W → Calls Try.prog 11 #[.slice a len cap] W fun e w' => e = .returned (.bool (vld L)) ∧ Below W.heap.size W w') := fun W b => valid_any a len cap L W (H.later b) hw
  have c4 : Hid (∀ W, Below w.heap.size w W → Calls Try.prog 13 #[.slice a len cap, v] W fun en w' => en = .returned (.tuple #[.slice none 0 0, .int .i64 160]) ∧ Below W.heap.size W w') := by
    intro W b
    refine (c2.out W b).mono ?_
    rintro en w' hp
    cases hp with
    | arg _ h1 b => rw [hv] at h1; cases h1
    | ver _ h1 h2 b => exact ⟨rfl, b⟩
    | ok _ g xs h1 h2 o e => rw [hg] at h2; cases h2
  clear c2
  rw [hv] at c3
  obtain ⟨lg, nx, sq, ps, co⟩ := e
  obtain ⟨hok, pa, pc, ca, cc, rfl, HP, HC⟩ := HE
  unfold ev at *
  dsimp only at *
  generalize hpn' : ps.length = pn at *
  generalize hcn' : co.length = cn at *
  have hpn := hpn'.symm
  have hcn := hcn'.symm
  clear hpn' hcn'
  obtain ⟨gx, hgx⟩ : ∃ g, g = w.heap.size := ⟨_, rfl⟩
  obtain ⟨W1, hW1⟩ : ∃ W, W = w.alloc (.cells #[.int .i64 lg, .int .i64 nx, .int .u64 sq, .slice pa pn pc, .slice ca cn cc] 28) := ⟨_, rfl⟩
  have kx : W1.heap[gx]? = some (.cells #[.int .i64 lg, .int .i64 nx, .int .u64 sq, .slice pa pn pc, .slice ca cn cc] 28) := by rw [hW1, hgx]; exact new_at _ _
  have bx : Below w.heap.size w W1 := by rw [hW1]; exact box_below _ _
  have c1 := hid (one_any W1)
  have hce : Hid (∀ W, Below W1.heap.size W1 W → W.heap[gx]? = some (.cells #[.int .i64 lg, .int .i64 nx, .int .u64 sq, .slice pa pn pc, .slice ca cn cc] 28)) := fun W b => (b.block _ (blk_lt kx)).trans kx
  replace bx := hid bx
  replace hW1 := hid hW1
  replace hgx := hid hgx
  clear kx
  clear hg8 hc8 hcl hap hwe hw hb HP HC H hok hpn hcn hv
  go_enter Try.func7, Try.ntmps7
  go_wp2_with (first | (go_at_call 22; rw [← hW1.out, ← hgx.out]; refine c1.out.mono ?_; rintro e w2 ⟨rfl, b2⟩; have kk := hce.out _ b2; have f0 := cell_of kk 0 _ rfl; have f1 := cell_of kk 1 _ rfl; have f2 := cell_of kk 2 _ rfl; have f3 := cell_of kk 3 _ rfl; have f4 := cell_of kk 4 _ rfl; clear kk; replace b2 := hid (Below.up bx.out b2)) | (go_at_call 13; refine (c4.out _ b2.out).mono ?_; rintro e w3 ⟨rfl, b3⟩; replace b3 := hid (Below.up b2.out b3); clear f0 f1 f2 f3 f4) | (go_at_call 11; refine (c3.out _ b3.out).mono ?_; rintro e w4 ⟨rfl, b4⟩; replace b4 := hid (Below.up b3.out b4)))
  go_ret
  exact ⟨rfl, b4.out⟩
set_option maxRecDepth 100000 in
set_option maxHeartbeats 1000000 in
theorem back_ok (a : Option Addr) (len cap : Nat) (L : List (List Fi)) (v : Value) (e : Ed) (w : World) (H : Lvs w a len cap L) (HE : EV w v e) (hb : wL L + wE e ≤ 1048576) (hv : vld L = true) (hg : good L e.go e.co = true) :
    Calls Try.prog 7 #[.slice a len cap, v] w fun en w' => en = .returned (.bool true) ∧ Below w.heap.size w w' := by
  have hw : wL L ≤ 1048576 := by omega
  have hwe : e.go.length + wsum wA e.co ≤ 1048576 := by unfold wE at hb; omega
  have hg8 : e.go.length ≤ 1048576 := by omega
  have hcl := wsum_len wA (fun x => by unfold wA wF; omega) e.co
  have hc8 : e.co.length ≤ 1048576 := by omega
  have hap : wL (ap L e.go e.co) ≤ 1048576 := by have := ap_w L e.go e.co; unfold wE at hb; omega
  have c2 : Hid (∀ W, Below w.heap.size w W → Calls Try.prog 13 #[.slice a len cap, v] W fun en w' => ApP W L e.go e.co len en w') := fun W b => apply_any a len cap L v e W (H.later b) (HE.later b) hw hg8 hc8 hap
  have c3 : Hid (∀ W, Below w.heap.size w W → Calls Try.prog 11 #[.slice a len cap] W fun e w' => e = .returned (.bool (vld L)) ∧ Below W.heap.size W w') := fun W b => valid_any a len cap L W (H.later b) hw
  have hlen := H.len_eq
  have hgp := hg
  unfold good at hgp
  rw [Bool.and_eq_true, Bool.and_eq_true] at hgp
  obtain ⟨hfit, hinn, hvA⟩ := hgp
  have hnd := (vld_parts hv).2.1
  have hgb := good_back hv hg
  have hab := ap_back hv hfit hvA
  have hgn := good_nums hg
  have hfg := fnd_go hnd hfit
  obtain ⟨A, hA⟩ : ∃ A, A = ap L e.go e.co := ⟨_, rfl⟩
  rw [← hA] at hap hvA hgb hab hgn
  have hAl : A.length = len := by rw [hA, ap_len, hlen]
  have hbkl : (bk L e.go).length = e.go.length := by unfold bk; rw [List.length_map]
  have hcol : (e.co.map Ad.pl).length = e.co.length := List.length_map ..
  have c4 : Hid (∀ W, Below w.heap.size w W → Calls Try.prog 13 #[.slice a len cap, v] W fun en w' => ∃ g, en = .returned (.tuple #[.slice (some ⟨g, 0, none⟩) len len, .int .i64 0]) ∧ Lvs w' (some ⟨g, 0, none⟩) len len A ∧ Below W.heap.size W w') := by
    intro W b
    refine (c2.out W b).mono ?_
    rintro en w' hp
    cases hp with
    | arg _ h1 b => rw [hv] at h1; cases h1
    | ver _ h1 h2 b => rw [hg] at h2; cases h2
    | ok _ g xs h1 h2 o e1 =>
      have hxl : xs.length = len := by rw [← hAl, hA, ← e1, List.length_map]
      have ol := o.lvs
      rw [hxl, e1, ← hA] at ol
      exact ⟨g, rfl, ol, o.lo⟩
  have c5 : Hid (∀ (g : Nat) W, Lvs W (some ⟨g, 0, none⟩) len len A → Calls Try.prog 11 #[.slice (some ⟨g, 0, none⟩) len len] W fun e w' => e = .returned (.bool true) ∧ Below W.heap.size W w') := by
    intro g W h
    have := valid_any (some ⟨g, 0, none⟩) len len A W h hap
    rwa [hvA] at this
  have c6 : Hid (∀ (g : Nat) W, Lvs W (some ⟨g, 0, none⟩) len len A → Calls Try.prog 25 #[.slice (some ⟨g, 0, none⟩) len len] W fun e w' => e = .returned (.int .i64 (nums A).length) ∧ Below W.heap.size W w') := by
    intro g W h
    have := files_any (some ⟨g, 0, none⟩) len len A W h hap
    rwa [if_pos hvA] at this
  have c7 : Hid (∀ W, Below w.heap.size w W → Calls Try.prog 25 #[.slice a len cap] W fun e w' => e = .returned (.int .i64 (nums L).length) ∧ Below W.heap.size W w') := by
    intro W b
    have := files_any a len cap L W (H.later b) hw
    rwa [if_pos hv] at this
  have c8 : Hid (∀ num W, Below w.heap.size w W → Calls Try.prog 17 #[.slice a len cap, .int .i64 num] W fun e w' => e = .returned (fa (fndL num 0 L)) ∧ Below W.heap.size W w') := fun num W b => find_good a len cap L num W (H.later b) hw hv
  have c9 : Hid (∀ (g : Nat) (vb : Value) W, Lvs W (some ⟨g, 0, none⟩) len len A → EV W vb ⟨0, 0, 0, e.co.map Ad.pl, bk L e.go⟩ → Calls Try.prog 13 #[.slice (some ⟨g, 0, none⟩) len len, vb] W fun en w' => ∃ g, en = .returned (.tuple #[.slice (some ⟨g, 0, none⟩) len len, .int .i64 0]) ∧ Lvs w' (some ⟨g, 0, none⟩) len len L ∧ Below W.heap.size W w') := by
    intro g vb W h1 h2
    refine (apply_any (some ⟨g, 0, none⟩) len len A vb _ W h1 h2 hap (by show (e.co.map Ad.pl).length ≤ _; rw [hcol]; exact hc8) (by show (bk L e.go).length ≤ _; rw [hbkl]; exact hg8) (by show wL (ap A (e.co.map Ad.pl) (bk L e.go)) ≤ _; rw [hab]; exact hw)).mono ?_
    rintro en w' hp
    cases hp with
    | arg _ h1 b => rw [hvA] at h1; cases h1
    | ver _ h1 h2 b => rw [hgb] at h2; cases h2
    | ok _ g xs h1 h2 o e1 =>
      have e1' : xs.map Lf.fs = L := by rw [e1]; exact hab
      have hxl : xs.length = len := by rw [← hlen, ← e1', List.length_map]
      have ol := o.lvs
      rw [hxl, e1'] at ol
      exact ⟨g, rfl, ol, o.lo⟩
  have c10 : Hid (∀ (g : Nat) W, Below w.heap.size w W → Lvs W (some ⟨g, 0, none⟩) len len L → Calls Try.prog 35 #[.slice (some ⟨g, 0, none⟩) len len, .slice a len cap] W fun e w' => e = .returned (.bool true) ∧ Below W.heap.size W w') := by
    intro g W b h
    have := same_any (some ⟨g, 0, none⟩) a len len len cap L L W h (H.later b) hw hw
    rwa [decide_eq_true rfl] at this
  have hn8 : (nums A).length ≤ 1048576 := Nat.le_trans (nums_len A) hap
  have hm8 : (nums L).length ≤ 1048576 := Nat.le_trans (nums_len L) hw
  have hfok : Hid (∀ k f num, fndL num 0 L = some (k, f) → f.ok) := by
    intro k f num h
    obtain ⟨fs, h1, h2⟩ := fndL_in h
    exact lvs_ok H fs h1 f h2
  have hll := H.len_eq
  have hl7 : len ≤ 1048576 := by have := wL_len L; omega
  have hgv : Hid (∀ p k f, fndL p.n 0 L = some (k, f) → gv L p = ⟨p.l, f⟩) := by
    intro p k f h
    unfold gv
    rw [h]
    rfl
  obtain ⟨lg, nx, sq, ps, co⟩ := e
  obtain ⟨hok, pa, pc, ca, cc, rfl, HP, HC⟩ := HE
  unfold ev at *
  dsimp only at *
  generalize hpn' : ps.length = pn at *
  generalize hcn' : co.length = cn at *
  have hpn := hpn'.symm
  have hcn := hcn'.symm
  clear hpn' hcn'
  obtain ⟨gx, hgx⟩ : ∃ g, g = w.heap.size := ⟨_, rfl⟩
  obtain ⟨W1, hW1⟩ : ∃ W, W = w.alloc (.cells #[.int .i64 lg, .int .i64 nx, .int .u64 sq, .slice pa pn pc, .slice ca cn cc] 28) := ⟨_, rfl⟩
  have kx : W1.heap[gx]? = some (.cells #[.int .i64 lg, .int .i64 nx, .int .u64 sq, .slice pa pn pc, .slice ca cn cc] 28) := by rw [hW1, hgx]; exact new_at _ _
  have bx : Below w.heap.size w W1 := by rw [hW1]; exact box_below _ _
  have c1 := hid (one_any W1)
  have hce : Hid (∀ W, Below W1.heap.size W1 W → W.heap[gx]? = some (.cells #[.int .i64 lg, .int .i64 nx, .int .u64 sq, .slice pa pn pc, .slice ca cn cc] 28)) := fun W b => (b.block _ (blk_lt kx)).trans kx
  replace bx := hid bx
  replace hW1 := hid hW1
  replace hgx := hid hgx
  clear kx
  have HCl : Hid (∀ W, Below w.heap.size w W → eAd.Sl W ca cn cc co) := fun W b => HC.later b
  have HPl : Hid (∀ W, Below w.heap.size w W → ePl.Sl W pa pn pc ps) := fun W b => HP.later b
  have hk1 : Hid (∀ x ∈ co.map Ad.pl, x.ok) := by
    intro x hx
    obtain ⟨y, hy, rfl⟩ := List.mem_map.1 hx
    have := HC.ok y hy
    exact ⟨this.1, this.2.1⟩
  have hk2 : Hid (∀ x ∈ bk L ps, x.ok) := by
    intro x hx
    obtain ⟨p, hp, rfl⟩ := List.mem_map.1 hx
    obtain ⟨k, f, h1, h2, h3, h4⟩ := hfg p hp
    rw [hgv.out p k f h4]
    exact ⟨(HP.ok p hp).1, hfok.out k f _ h4⟩
  have hcc := HC.c
  have hpc := HP.c
  obtain ⟨na, hna⟩ : ∃ n, n = (nums A).length := ⟨_, rfl⟩
  obtain ⟨nl, hnl⟩ : ∃ n, n = (nums L).length := ⟨_, rfl⟩
  rw [← hna] at c6 hn8 hgn
  rw [← hnl] at c7 hm8 hgn
  replace hpn := hid hpn
  replace hcn := hid hcn
  replace hfg := hid hfg
  replace hgn := hid hgn
  replace hbkl := hid hbkl
  clear c2 c3 HP HC H hok hv hg hfit hinn hvA hnd hgb hab hap hwe hw hb hcl hA hAl hlen hll hcol hna hnl
  go_enter Try.func7, Try.ntmps7
  go_wp2_with (first | (go_at_call 22; rw [← hW1.out, ← hgx.out]; refine c1.out.mono ?_; rintro e w2 ⟨rfl, b2⟩; have kk := hce.out _ b2; have f0 := cell_of kk 0 _ rfl; have f1 := cell_of kk 1 _ rfl; have f2 := cell_of kk 2 _ rfl; have f3 := cell_of kk 3 _ rfl; have f4 := cell_of kk 4 _ rfl; replace kk := hid kk; replace b2 := hid (Below.up bx.out b2)) | (go_at_call 13; refine (c4.out _ b2.out).mono ?_; rintro e w3 ⟨ga, rfl, A3, b3⟩; clear f0 f1 f2 f3 f4; have hk3 := hid ((b3.block _ (blk_lt kk.out)).trans kk.out); clear kk; replace b3 := hid (Below.up b2.out b3); replace A3 := hid A3))
  have k3 := hk3.out
  have g0 := fun d os => cell_regrown (cell_of k3 3 _ rfl) d os
  have g1 := fun d os => cell_regrown (cell_of k3 4 _ rfl) d os
  have hne : ((na : Int) != (nl : Int) - (pn : Int) + (cn : Int)) = false := by rw [bne_eq_false_iff_eq]; exact hgn.out
  clear k3 hgn
  refine wp_region_quiet_below (by kernel_rfl) (by kernel_rfl) ?_
  repeat (go_big_quiet_step (first | (go_at_call 11; with_reducible exact Calls.regrown_of (c5.out _ _ (A3.out.later (below_regrown _ _ _)))) | (go_at_call 25; with_reducible exact Calls.regrown_of (c6.out _ _ (A3.out.later (below_regrown _ _ _)))) | (go_at_call 25; with_reducible exact Calls.regrown_of (c7.out _ (Below.up b3.out (below_regrown _ _ _))))))
  refine wpQuiet_nil ?_
  intro w8 hw8
  have b38 : Below w3.heap.size w3 w8 := by
    obtain ⟨⟨dq, osq⟩, hw''⟩ := hw8
    rw [hw'']
    exact below_regrown _ dq osq
  clear hw8 g0 g1 hne
  replace A3 := hid (A3.out.later b38)
  have k8 := hid ((b38.block _ (blk_lt hk3.out)).trans hk3.out)
  replace b3 := hid (Below.up b3.out b38)
  clear hk3 b38
  go_wp2_with fail
  obtain ⟨gb, hgb⟩ : ∃ g, g = w8.heap.size := ⟨_, rfl⟩
  have B8 := Bk.made w8
  rw [← hgb]
  rw [← hgb] at B8
  replace B8 := hid B8
  replace hgb := hid hgb
  go_loopw [8] (fun ii wr => ∃ (i : Nat) (gv : Value), ii = .int .i64 i ∧ i ≤ cn ∧ Hid (Bk w8 wr gb gv (.slice none 0 0) ((co.take i).map Ad.pl) [])) (fun ii _ => cn - (intOf ii).toNat)
  case atStart => exact ⟨0, _, rfl, by omega, B8⟩
  case round =>
    clear B8
    obtain ⟨i, gv, rfl, hi, B8⟩ := hrel
    obtain ⟨ga3, gc3, hgv3⟩ := row_block B8.out.g
    obtain ⟨gn3, hgn3⟩ : ∃ n, n = ((co.take i).map Ad.pl).length := ⟨_, rfl⟩
    rw [← hgn3] at hgv3
    replace hgn3 := hid hgn3
    subst hgv3
    have cx4 := cell_later (cell_of k8.out 4 _ rfl) B8.out.lo
    by_cases hlt : i < cn
    · obtain ⟨cb, cf, hca, hat⟩ := get1 (HCl.out _ (Below.up b3.out B8.out.lo)) i hlt
      have hcic : i < co.length := by rw [← hcn.out]; exact hlt
      have htk : Hid ((co.take i).map Ad.pl ++ [(co.getD i za).pl] = (co.take (i + 1)).map Ad.pl) := by
        show _ = _
        rw [show co.take (i + 1) = co.take i ++ [co.getD i za] from El.take_snoc (E := eAd) hcic, List.map_append]
        rfl
      have hq : Hid (∀ V, Below w8.heap.size w8 V → V.cell? ⟨gx, 4, none⟩ = some (.slice ca cn cc) ∧ V.cell? ⟨cb, cf + i * 7, none⟩ = some (.int .i64 (co.getD i za).l) ∧ V.cell? ⟨cb, cf + i * 7 + 1, none⟩ = some (.int .i64 (co.getD i za).f.n)) := by
        intro V b
        obtain ⟨cb', cf', hca', hat'⟩ := get1 (HCl.out _ (Below.up b3.out b)) i hlt
        rw [hca] at hca'
        injection hca' with hca'
        injection hca' with e1 e2
        subst e1 e2
        have h1 := ad_at (hat' i hlt)
        exact ⟨cell_later (cell_of k8.out 4 _ rfl) b, h1.1, h1.2.1⟩
      clear hat
      subst hca
      have ik0 : (i : Int) < (cn : Int) := by omega
      have ok0 : (0 : Int) ≤ (i : Int) := by omega
      have h2 : ((co.take i).map Ad.pl).length + 1 ≤ 2199023255552 := by rw [List.length_map, List.length_take]; omega
      generalize co.getD i za = y at *
      obtain ⟨yl, f⟩ := y
      obtain ⟨yn, yz, ya, yb, ylo, yhi⟩ := f
      unfold Ad.pl at htk
      dsimp only at hq htk
      go_wp2_with fail
      have BD := B8.out.later (drew_below wr)
      obtain ⟨a9, n9, c9, W9, r9, hb9, lo9, B9⟩ := BD.appG ⟨yl, yn⟩ #[.int .i64 yl, .int .i64 yn] rfl h2
      have f60 := cell_of BD.o 3 _ rfl
      have f61 : ((World.drew wr).alloc (.cells #[.int .i64 yl, .int .i64 yn] 41)).cell? ⟨gb, 3, none⟩ = some (.slice ga3 gn3 gc3) := cell_later f60 (box_below _ _)
      have z9 := cell_of hb9 3 _ rfl
      have y9 := fz_of hb9 3
      have hSD := BD.lo
      replace r9 := hid r9
      replace lo9 := hid lo9
      replace B9 := hid B9
      clear BD hb9 B8 cx4
      refine wp_region_held_drew (S := fun V => Below w8.heap.size w8 V) (by kernel_rfl) hSD (fun hS => ?_)
      generalize World.drew wr = D at *
      refine wpAnyH_take (i := 0) (v := ?v1) rfl (by kernel_rfl) (by kernel_rfl) (by kernel_rfl) (fun _ _ _ h => h) (Or.inl ⟨by rfl, ?h1⟩) hS ?_
      case h1 => (intro W hW; go_simp; try (with_reducible rfl))
      go_simp
      refine wpAnyH_take (i := 2) (v := ?v2) rfl (by kernel_rfl) (by kernel_rfl) (by kernel_rfl) (fun _ _ _ h => h) (Or.inl ⟨by rfl, ?h2⟩) hS ?_
      case h2 => (intro W hW; go_simp; try (with_reducible rfl))
      go_simp
      refine wpAnyH_take (i := 3) (v := ?v3) rfl (by kernel_rfl) (by kernel_rfl) (by kernel_rfl) (fun _ _ _ h => h) (Or.inl ⟨by rfl, ?h3⟩) hS ?_
      case h3 => (intro W hW; have cc := (hq.out _ hW).1; go_simp; try (with_reducible rfl))
      go_simp
      refine wpAnyH_take (i := 4) (v := ?v4) rfl (by kernel_rfl) (by kernel_rfl) (by kernel_rfl) (fun _ _ _ h => h) (Or.inl ⟨by rfl, ?h4⟩) hS ?_
      case h4 => (intro W hW; go_simp; try (with_reducible rfl))
      go_simp
      refine wpAnyH_take (i := 5) (v := ?v5) rfl (by kernel_rfl) (by kernel_rfl) (by kernel_rfl) (fun _ _ _ h => h) (Or.inl ⟨by rfl, ?h5⟩) hS ?_
      case h5 => (intro W hW; go_simp; try (with_reducible rfl))
      go_simp
      refine wpAnyH_take (i := 6) (v := ?v6) rfl (by kernel_rfl) (by kernel_rfl) (by kernel_rfl) (fun _ _ _ h => h) (Or.inl ⟨by rfl, ?h6⟩) hS ?_
      case h6 => (intro W hW; go_simp; try (with_reducible rfl))
      go_simp
      refine wpAnyH_take (i := 7) (v := ?v7) rfl (by kernel_rfl) (by kernel_rfl) (by kernel_rfl) (fun _ _ _ h => h) (Or.inl ⟨by rfl, ?h7⟩) hS ?_
      case h7 => (intro W hW; have cc := (hq.out _ hW).2.1; go_simp; try (with_reducible rfl))
      go_simp
      refine wpAnyH_take (i := 8) (v := ?v8) rfl (by kernel_rfl) (by kernel_rfl) (by kernel_rfl) (fun _ _ _ h => h) (Or.inl ⟨by rfl, ?h8⟩) hS ?_
      case h8 => (intro W hW; go_simp; try (with_reducible rfl))
      go_simp
      refine wpAnyH_take (i := 9) (v := ?v9) rfl (by kernel_rfl) (by kernel_rfl) (by kernel_rfl) (fun _ _ _ h => h) (Or.inl ⟨by rfl, ?h9⟩) hS ?_
      case h9 => (intro W hW; have cc := (hq.out _ hW).1; go_simp; try (with_reducible rfl))
      go_simp
      refine wpAnyH_take (i := 10) (v := ?v10) rfl (by kernel_rfl) (by kernel_rfl) (by kernel_rfl) (fun _ _ _ h => h) (Or.inl ⟨by rfl, ?h10⟩) hS ?_
      case h10 => (intro W hW; go_simp; try (with_reducible rfl))
      go_simp
      refine wpAnyH_take (i := 11) (v := ?v11) rfl (by kernel_rfl) (by kernel_rfl) (by kernel_rfl) (fun _ _ _ h => h) (Or.inl ⟨by rfl, ?h11⟩) hS ?_
      case h11 => (intro W hW; go_simp; try (with_reducible rfl))
      go_simp
      refine wpAnyH_take (i := 12) (v := ?v12) rfl (by kernel_rfl) (by kernel_rfl) (by kernel_rfl) (fun _ _ _ h => h) (Or.inl ⟨by rfl, ?h12⟩) hS ?_
      case h12 => (intro W hW; go_simp; try (with_reducible rfl))
      go_simp
      refine wpAnyH_take (i := 13) (v := ?v13) rfl (by kernel_rfl) (by kernel_rfl) (by kernel_rfl) (fun _ _ _ h => h) (Or.inl ⟨by rfl, ?h13⟩) hS ?_
      case h13 => (intro W hW; go_simp; try (with_reducible rfl))
      go_simp
      refine wpAnyH_take (i := 14) (v := ?v14) rfl (by kernel_rfl) (by kernel_rfl) (by kernel_rfl) (fun _ _ _ h => h) (Or.inl ⟨by rfl, ?h14⟩) hS ?_
      case h14 => (intro W hW; have cc := (hq.out _ hW).2.2; go_simp; try (with_reducible rfl))
      go_simp
      refine wpAnyH_take (i := 15) (v := ?v15) rfl (by kernel_rfl) (by kernel_rfl) (by kernel_rfl) (fun _ _ _ h => h) (Or.inl ⟨by rfl, ?h15⟩) hS ?_
      case h15 => (intro W hW; go_simp; try (with_reducible rfl))
      go_simp
      refine wpAnyH_ready (rs := [1, 16]) (by kernel_rfl) (by simp) ?_
      refine AllReadyH.cons rfl (fun K hK => ?_) ?_
      · go_simp
        refine hK.out _ _ hS (fun hS => ?_)
        clear hK K
        refine wpAnyH_ready (rs := [16]) (by kernel_rfl) (by simp) ?_
        refine AllReadyH.cons rfl (fun K hK => ?_) ?_
        · go_simp
          refine hK.out _ _ (hS.alloc hS.size _) (fun hS => ?_)
          clear hK K
          refine wpAnyH_ready (rs := [17]) (by kernel_rfl) (by simp) ?_
          refine AllReadyH.cons rfl (fun K hK => ?_) ?_
          · refine wp_append_run (.tmp 60) (.tmp 75) 25 25 rfl (.slice ga3 gn3 gc3) (.slice (some ⟨D.heap.size, 0, none⟩) 1 1) (.slice a9 n9 c9) (by go_simp) (by go_simp) r9.out ?_
            go_simp
            refine hK.out _ _ lo9.out (fun hS => ?_)
            clear hK K
            refine wpAnyH_take (i := 18) (v := ?v16) rfl (by kernel_rfl) (by kernel_rfl) (by kernel_rfl) (fun _ _ _ h => h) (Or.inl ⟨by rfl, ?h16⟩) hS ?_
            case h16 => (intro W hW; go_simp; try (with_reducible rfl))
            go_simp
            refine wpAnyH_ready (rs := [19]) (by kernel_rfl) (by simp) ?_
            refine AllReadyH.cons rfl (fun K hK => ?_) ?_
            · go_simp
              refine hK.out _ _ B9.out.lo (fun hS => ?_)
              clear hK K
              refine wpAnyH_done (by kernel_rfl) ?_ _
              go_wp2_with fail
              go_roundw
              case rel => exact ⟨i + 1, _, by go_num, by omega, htk.out ▸ B9⟩
              case measure => simp [intOf]; omega
            exact AllReadyH.nil
          exact AllReadyH.nil
        exact AllReadyH.nil
      refine AllReadyH.cons rfl (fun K hK => ?_) ?_
      · go_simp
        refine hK.out _ _ (hS.alloc hS.size _) (fun hS => ?_)
        clear hK K
        refine wpAnyH_ready (rs := [1]) (by kernel_rfl) (by simp) ?_
        refine AllReadyH.cons rfl (fun K hK => ?_) ?_
        · go_simp
          refine hK.out _ _ hS (fun hS => ?_)
          clear hK K
          refine wpAnyH_ready (rs := [17]) (by kernel_rfl) (by simp) ?_
          refine AllReadyH.cons rfl (fun K hK => ?_) ?_
          · refine wp_append_run (.tmp 60) (.tmp 75) 25 25 rfl (.slice ga3 gn3 gc3) (.slice (some ⟨D.heap.size, 0, none⟩) 1 1) (.slice a9 n9 c9) (by go_simp) (by go_simp) r9.out ?_
            go_simp
            refine hK.out _ _ lo9.out (fun hS => ?_)
            clear hK K
            refine wpAnyH_take (i := 18) (v := ?v17) rfl (by kernel_rfl) (by kernel_rfl) (by kernel_rfl) (fun _ _ _ h => h) (Or.inl ⟨by rfl, ?h17⟩) hS ?_
            case h17 => (intro W hW; go_simp; try (with_reducible rfl))
            go_simp
            refine wpAnyH_ready (rs := [19]) (by kernel_rfl) (by simp) ?_
            refine AllReadyH.cons rfl (fun K hK => ?_) ?_
            · go_simp
              refine hK.out _ _ B9.out.lo (fun hS => ?_)
              clear hK K
              refine wpAnyH_done (by kernel_rfl) ?_ _
              go_wp2_with fail
              go_roundw
              case rel => exact ⟨i + 1, _, by go_num, by omega, htk.out ▸ B9⟩
              case measure => simp [intOf]; omega
            exact AllReadyH.nil
          exact AllReadyH.nil
        exact AllReadyH.nil
      exact AllReadyH.nil
    · have hie : i = cn := by omega
      subst hie
      have hte : Hid ((co.take i).map Ad.pl = co.map Ad.pl) := by show _ = _; rw [hcn.out, List.take_length]
      rw [hte.out] at B8
      go_wp2_with fail
      go_loopw [9] (fun ii wr => ∃ (i : Nat) (cv : Value), ii = .int .i64 i ∧ i ≤ pn ∧ Hid (Bk w8 wr gb (.slice ga3 gn3 gc3) cv (co.map Ad.pl) ((ps.take i).map (gv L)))) (fun ii _ => pn - (intOf ii).toNat)
      case atStart => exact ⟨0, _, rfl, by omega, B8⟩
      case round =>
        clear B8 cx4
        obtain ⟨j, cv, rfl, hj, B8⟩ := hrel
        obtain ⟨ca3, cc3, hcv3⟩ := row_block B8.out.c
        obtain ⟨cn3, hcn3⟩ : ∃ n, n = ((ps.take j).map (gv L)).length := ⟨_, rfl⟩
        rw [← hcn3] at hcv3
        replace hcn3 := hid hcn3
        subst hcv3
        have cx3 := cell_later (cell_of k8.out 3 _ rfl) B8.out.lo
        by_cases hlt : j < pn
        · obtain ⟨pb, pf, rfl, hat⟩ := get1 (HPl.out _ (Below.up b3.out B8.out.lo)) j hlt
          have hA := pl_at (hat j hlt)
          rw [show ePl.z = zp from rfl, show ePl.k = 2 from rfl] at hA
          have hpic : j < ps.length := by rw [← hpn.out]; exact hlt
          obtain ⟨k, f, hk, hpl, hfn, hfd⟩ := hfg.out _ (El.get_mem (E := ePl) hpic)
          rw [show ePl.z = zp from rfl] at hpl hfn hfd
          have hgvp := hgv.out _ _ _ hfd
          have hfo := hfok.out _ _ _ hfd
          have htk : Hid ((ps.take j).map (gv L) ++ [gv L (ps.getD j zp)] = (ps.take (j + 1)).map (gv L)) := by
            show _ = _
            rw [show ps.take (j + 1) = ps.take j ++ [ps.getD j zp] from El.take_snoc (E := ePl) hpic, List.map_append]
            rfl
          rw [hgvp] at htk
          have C8 := c8.out (ps.getD j zp).n wr (Below.up b3.out B8.out.lo)
          rw [hfd] at C8
          clear hat hfd hgvp
          generalize ps.getD j zp = p at *
          obtain ⟨pl, pnn⟩ := p
          dsimp only at hA hpl hfn htk C8
          subst hpl
          obtain ⟨fn, fz, ft, fu, flo, fhi⟩ := f
          dsimp only at hfn
          subst hfn
          obtain ⟨e0, e1⟩ := hA
          unfold fa fv at C8
          dsimp only at C8
          replace C8 := hid C8
          have ik0 : (j : Int) < (pn : Int) := by omega
          have ok0 : (0 : Int) ≤ (j : Int) := by omega
          have hkk : ((k : Int) != (k : Int)) = false := bne_self_eq_false _
          have h2 : ((ps.take j).map (gv L)).length + 1 ≤ 1099511627776 := by rw [List.length_map, List.length_take]; omega
          clear hfo hpic hk
          go_wp2_with fail
          refine C8.out.mono ?_
          rintro e w6 ⟨rfl, b6⟩
          obtain ⟨W7, hW7⟩ : ∃ W, W = w6.alloc (.cells #[.int .i64 fn, .int .i64 fz, .string ft, .string fu, .int .u64 flo, .int .u64 fhi] 43) := ⟨_, rfl⟩
          obtain ⟨g7, hg7⟩ : ∃ g, g = w6.heap.size := ⟨_, rfl⟩
          have bx7 : Below w6.heap.size w6 W7 := by rw [hW7]; exact box_below _ _
          have kx7 : W7.heap[g7]? = some (.cells #[.int .i64 fn, .int .i64 fz, .string ft, .string fu, .int .u64 flo, .int .u64 fhi] 43) := by rw [hW7, hg7]; exact new_at _ _
          have b67 := Below.up b6 bx7
          have B7 := hid (B8.out.later b67)
          have y0 := cell_later e0 b67
          have y3 := cell_later cx3 b67
          have k7 := hid kx7
          clear e0 e1 cx3 b67 b6 bx7 kx7 B8 C8
          obtain ⟨a9, n9, c9', W9, r9, hb9, lo9, B9⟩ := B7.out.appC ⟨(k : Int), ⟨fn, fz, ft, fu, flo, fhi⟩⟩ #[.int .i64 k, .int .i64 fn, .int .i64 fz, .string ft, .string fu, .int .u64 flo, .int .u64 fhi] rfl h2
          have p0 := cell_of k7.out 0 _ rfl
          have p1 := cell_of k7.out 1 _ rfl
          have p2 := cell_of k7.out 2 _ rfl
          have p3 := cell_of k7.out 3 _ rfl
          have p4 := cell_of k7.out 4 _ rfl
          have p5 := cell_of k7.out 5 _ rfl
          have cB := cell_of B7.out.o 4 _ rfl
          have z9 := cell_of hb9 4 _ rfl
          have y9 := fz_of hb9 4
          have hs7 : W7.heap.size = w6.heap.size + 1 := by rw [hW7]; exact size_alloc _ _
          rw [hs7] at r9
          clear hb9 lo9 B7 k7 hs7
          subst hg7
          subst hW7
          replace r9 := hid r9
          replace B9 := hid B9
          go_wp2_with (first | (at_builtin; have hr := r9.out; clear r9; refine wpList_append_run rfl (.tmp 110) (.tmp 114) 26 26 rfl (.slice ca3 cn3 cc3) (.slice (some ⟨w6.heap.size + 1, 0, none⟩) 1 1) (.slice a9 n9 c9') rfl rfl hr ?_; clear hr))
          go_roundw
          case rel => exact ⟨j + 1, _, by go_num, by omega, htk.out ▸ B9⟩
          case measure => simp [intOf]; omega
        · have hje : j = pn := by omega
          subst hje
          have hte : Hid ((ps.take j).map (gv L) = bk L ps) := by show _ = _; rw [hpn.out, List.take_length]; rfl
          rw [hte.out] at B8
          have x0 := cell_of B8.out.o 0 _ rfl
          have x1 := cell_of B8.out.o 1 _ rfl
          have x2 := cell_of B8.out.o 2 _ rfl
          have x3 := cell_of B8.out.o 3 _ rfl
          have x4 := cell_of B8.out.o 4 _ rfl
          have EVb := B8.out.ev hk1.out hk2.out (by rw [List.length_map, ← hcn.out]; omega) (by rw [hbkl.out]; omega)
          have A8 := A3.out.later B8.out.lo
          have C9 := hid (c9.out ga _ wr A8 EVb)
          have cb := hid (Below.up b3.out B8.out.lo)
          have C10 : Hid (∀ (g : Nat) W, Below wr.heap.size wr W → Lvs W (some ⟨g, 0, none⟩) len len L → Calls Try.prog 35 #[.slice (some ⟨g, 0, none⟩) len len, .slice a len cap] W fun e w' => e = .returned (.bool true) ∧ Below W.heap.size W w') := fun g W b h => c10.out g W (Below.up cb.out b) h
          clear EVb A8 B8
          go_wp2_with (first | (go_at_call 13; refine C9.out.mono ?_; rintro e w10 ⟨g10, rfl, A10, b10⟩; replace A10 := hid A10; replace b10 := hid b10; clear x0 x1 x2 x3 x4) | (go_at_call 35; refine (C10.out _ _ b10.out A10.out).mono ?_; rintro e w11 ⟨rfl, b11⟩; replace b11 := hid b11))
          go_ret
          exact ⟨rfl, Below.up (Below.up cb.out b10.out) b11.out⟩
theorem back_any (a : Option Addr) (len cap : Nat) (L : List (List Fi)) (v : Value) (e : Ed) (w : World) (H : Lvs w a len cap L) (HE : EV w v e) (hb : wL L + wE e ≤ 1048576) :
    Calls Try.prog 7 #[.slice a len cap, v] w fun en w' => en = .returned (.bool true) ∧ Below w.heap.size w w' := by
  cases hv : vld L with
  | false => exact back_arg a len cap L v e w H HE hb hv
  | true =>
    cases hg : good L e.go e.co with
    | false => exact back_ver a len cap L v e w H HE hb hv hg
    | true => exact back_ok a len cap L v e w H HE hb hv hg
end Go.Proofs.Ytkpihibeohjfnaa.Lk
