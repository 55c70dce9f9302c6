/- A list's cursor whose entries lie in a row of their own: all its calls by contract. -/
import Derived.Test.YtgjodfaliajlgaaSk9
namespace Go.Proofs.Ytgjodfaliajlgaa.Lm9
open Go.ChangeShapes Go.WideShapes Go.ChangeAt Go.RowKit
open Go.Proofs.Ytgjodfaliajlgaa.Gr hiding hid addr_add
open Go.Proofs.Ytgjodfaliajlgaa.Ik
open Go.Proofs.Ytgjodfaliajlgaa.Ee
open Go.Proofs.Ytgjodfaliajlgaa.Ew
open Go.Proofs.Ytgjodfaliajlgaa.Sd hiding below_grown
open Go.Proofs.Ytgjodfaliajlgaa.Cm (ik)
open Go.Proofs.Ytgjodfaliajlgaa.Ls9
open Go.Proofs.Ytgjodfaliajlgaa.Sk9
set_option linter.unusedVariables false
set_option linter.unusedSimpArgs false

/-- A list at block g, its entries in block ga. -/
structure Lc (w : World) (g ga n : Nat) (i : Int) (ys : List E) : Prop where
  b : Lb w g (some ⟨ga, 0, none⟩) n n i
  r : ERow w ga n ys
  ne : ga ≠ g
  n : ys.length = n
  ok : ∀ x ∈ ys, x.ok
theorem Lc.ents {w : World} {g ga n : Nat} {i : Int} {ys : List E} (h : Lc w g ga n i ys) : Ents w (some ⟨ga, 0, none⟩) n n ys := row_sl h.r h.n h.ok
theorem Lc.later {w w' : World} {g ga n : Nat} {i : Int} {ys : List E} (h : Lc w g ga n i ys) (b : Below w.heap.size w w') : Lc w' g ga n i ys := ⟨h.b.later b, h.r.later b, h.ne, h.n, h.ok⟩
theorem Lc.fp {w w' : World} {g ga n : Nat} {i : Int} {ys : List E} (h : Lc w g ga n i ys) {P : Nat → Prop} (b : Fp P w w') (hp : ¬ P g) (hq : ¬ P ga) : Lc w' g ga n i ys :=
  ⟨(b.block g h.b.lt hp).trans h.b, h.r.block (b.block ga h.r.lt hq), h.ne, h.n, h.ok⟩
theorem lhere_any (g ga n : Nat) (i : Int) (ys : List E) (w : World) (H : Lc w g ga n i ys) :
    Calls Try.prog 16 #[.pointer (some ⟨g, 0, none⟩)] w fun e w' => e = .returned (.tuple #[.agg (hv ys i), .bool (hb n i)]) ∧ Below w.heap.size w w' := here_any g _ n n i ys w H.b H.ents
theorem lstand_any (g ga n : Nat) (i j : Int) (ys : List E) (w : World) (H : Lc w g ga n i ys) :
    Calls Try.prog 41 #[.pointer (some ⟨g, 0, none⟩), .int .i64 j] w fun e w' => e = .returned (.bool (hb n j)) ∧ Lc w' g ga n j ys ∧ Fp (· = g) w w' :=
  (stand_any g _ n n i j ys w H.b H.ents (fun ad h _ => by injection h with h; subst h; exact H.ne)).mono (fun e w' h => ⟨h.1, ⟨h.2.1, H.r.block (h.2.2.block ga H.r.lt H.ne), H.ne, H.n, H.ok⟩, h.2.2⟩)
set_option maxHeartbeats 1000000 in
set_option maxRecDepth 20000 in
theorem first_any (g ga n : Nat) (i : Int) (ys : List E) (w : World) (H : Lc w g ga n i ys) (hi : -1 ≤ i ∧ i ≤ (n : Int)) (hn : n ≤ 4000000000000) :
    Calls Try.prog 17 #[.pointer (some ⟨g, 0, none⟩)] w fun e w' => e = .returned (.bool (hb n 0)) ∧ Lc w' g ga n 0 ys ∧ Fp (· = g) w w' := by
  obtain ⟨j, hj⟩ : ∃ j : Int, j = 0 := ⟨_, rfl⟩
  rw [← hj]
  have HS := hid (lstand_any g ga n i j ys w H)
  have c0 := H.b.c0
  have c1 := H.b.c1
  clear H
  replace hj := hid hj
  go_enter Try.func17, Try.ntmps17
  go_wp2_with fail
  rw [← hj.out]
  refine HS.out.mono ?_
  rintro e w1 ⟨rfl, m1⟩
  replace m1 := hid m1
  go_wp2_with fail
  go_ret
  exact ⟨rfl, m1.out⟩
set_option maxHeartbeats 1000000 in
set_option maxRecDepth 20000 in
theorem last_any (g ga n : Nat) (i : Int) (ys : List E) (w : World) (H : Lc w g ga n i ys) (hi : -1 ≤ i ∧ i ≤ (n : Int)) (hn : n ≤ 4000000000000) :
    Calls Try.prog 18 #[.pointer (some ⟨g, 0, none⟩)] w fun e w' => e = .returned (.bool (hb n ((n : Int) - 1))) ∧ Lc w' g ga n ((n : Int) - 1) ys ∧ Fp (· = g) w w' := by
  obtain ⟨j, hj⟩ : ∃ j : Int, j = ((n : Int) - 1) := ⟨_, rfl⟩
  rw [← hj]
  have HS := hid (lstand_any g ga n i j ys w H)
  have c0 := H.b.c0
  have c1 := H.b.c1
  clear H
  have hwr : IntKind.i64.wrap ((n : Int) - 1) = j := by rw [hj, IntKind.wrap_i64]; omega
  replace hj := hid hj
  go_enter Try.func18, Try.ntmps18
  go_wp2_with fail
  refine HS.out.mono ?_
  rintro e w1 ⟨rfl, m1⟩
  replace m1 := hid m1
  go_wp2_with fail
  go_ret
  exact ⟨rfl, m1.out⟩
set_option maxHeartbeats 1000000 in
set_option maxRecDepth 20000 in
theorem next_any (g ga n : Nat) (i : Int) (ys : List E) (w : World) (H : Lc w g ga n i ys) (hi : -1 ≤ i ∧ i ≤ (n : Int)) (hn : n ≤ 4000000000000) :
    Calls Try.prog 20 #[.pointer (some ⟨g, 0, none⟩)] w fun e w' => e = .returned (.bool (hb n (min (i + 1) (n : Int)))) ∧ Lc w' g ga n (min (i + 1) (n : Int)) ys ∧ Fp (· = g) w w' := by
  obtain ⟨j, hj⟩ : ∃ j : Int, j = (min (i + 1) (n : Int)) := ⟨_, rfl⟩
  rw [← hj]
  obtain ⟨D, hD⟩ : ∃ D, D = World.drew w := ⟨_, rfl⟩
  have bD : Below w.heap.size w D := by rw [hD]; exact drew_below w
  have HS := hid (lstand_any g ga n i j ys D (H.later bD))
  have HB := hid bD
  have c1 := (H.later bD).b.c1
  have c0 := (H.later bD).b.c0
  have hwr : IntKind.i64.wrap (i + 1) = i + 1 := by rw [IntKind.wrap_i64]; omega
  replace hD := hid hD
  replace hj := hid hj
  clear H bD
  go_enter Try.func20, Try.ntmps20
  go_wp2_with fail
  refine region_tail 15 (by kernel_rfl) (by kernel_rfl) ?_
  rw [← hD.out]
  simp only [List.take_succ_cons, List.take_zero, List.drop_succ_cons, List.drop_zero]
  repeat still_step
  refine wpStill_nil ?_
  go_wp2_with fail
  rw [← hj.out]
  refine HS.out.mono ?_
  rintro e w1 ⟨rfl, m1, f1⟩
  have K1 : Hid (Lc w1 g ga n j ys ∧ Fp (· = g) w w1) := ⟨m1, (Fp.of HB.out).tr (f1.wide fun k _ hk => .inl hk)⟩
  clear m1 f1
  go_wp2_with fail
  go_ret
  exact ⟨rfl, K1.out⟩
set_option maxHeartbeats 1000000 in
set_option maxRecDepth 20000 in
theorem prev_any (g ga n : Nat) (i : Int) (ys : List E) (w : World) (H : Lc w g ga n i ys) (hi : -1 ≤ i ∧ i ≤ (n : Int)) (hn : n ≤ 4000000000000) :
    Calls Try.prog 21 #[.pointer (some ⟨g, 0, none⟩)] w fun e w' => e = .returned (.bool (hb n (max (i - 1) (-1)))) ∧ Lc w' g ga n (max (i - 1) (-1)) ys ∧ Fp (· = g) w w' := by
  obtain ⟨j, hj⟩ : ∃ j : Int, j = (max (i - 1) (-1)) := ⟨_, rfl⟩
  rw [← hj]
  have HS := hid (lstand_any g ga n i j ys w H)
  have c0 := H.b.c0
  have c1 := H.b.c1
  clear H
  have hwr : IntKind.i64.wrap (i - 1) = i - 1 := by rw [IntKind.wrap_i64]; omega
  replace hj := hid hj
  go_enter Try.func21, Try.ntmps21
  go_wp2_with fail
  rw [← hj.out]
  refine HS.out.mono ?_
  rintro e w1 ⟨rfl, m1⟩
  replace m1 := hid m1
  go_wp2_with fail
  go_ret
  exact ⟨rfl, m1.out⟩
set_option maxHeartbeats 1000000 in
theorem seek_any (g ga n m : Nat) (i : Int) (ys : List E) (k : ByteArray) (s cc : Int) (w : World) (H : Lc w g ga n i ys) (hn : n ≤ 4000000000000) (hm : Cut ys (ik k s cc) m) :
    Calls Try.prog 19 #[.pointer (some ⟨g, 0, none⟩), .agg #[.string k, .int .u64 s, .int .i64 cc]] w fun e w' => e = .returned (.bool (hb n (m : Int))) ∧ Lc w' g ga n (m : Int) ys ∧ Fp (· = g) w w' := by
  obtain ⟨W, hW⟩ : ∃ W, W = w.alloc (.cells #[.string k, .int .u64 s, .int .i64 cc] 33) := ⟨_, rfl⟩
  obtain ⟨gk, hgk⟩ : ∃ g, g = w.heap.size := ⟨_, rfl⟩
  have BW : Below w.heap.size w W := by rw [hW]; exact box_below _ _
  have KB : W.heap[gk]? = some (.cells #[.string k, .int .u64 s, .int .i64 cc] 33) := by rw [hW, hgk]; exact new_at _ _
  have k0 := cell_of KB 0 _ rfl
  have k1 := cell_of KB 1 _ rfl
  have k2 := cell_of KB 2 _ rfl
  have HF := hid (find_any g _ n n m i ys k s cc W (H.later BW).b (H.later BW).ents hn hm)
  have HS : Hid (∀ W', Below W.heap.size W W' → Calls Try.prog 41 #[.pointer (some ⟨g, 0, none⟩), .int .i64 (m : Int)] W' fun e w' => e = .returned (.bool (hb n (m : Int))) ∧ Lc w' g ga n (m : Int) ys ∧ Fp (· = g) W' w') := fun W' b => lstand_any g ga n i m ys W' ((H.later BW).later b)
  replace BW := hid BW
  replace hW := hid hW
  replace hgk := hid hgk
  generalize hb n (m : Int) = bb at *
  clear H KB hm
  go_enter Try.func19, Try.ntmps19
  go_wp2_with fail
  rw [← hW.out, ← hgk.out]
  try go_wp2_with fail
  refine HF.out.mono ?_
  rintro e w1 ⟨rfl, b1⟩
  have HS1 := hid (HS.out w1 b1)
  have BW1 := hid (Below.up BW.out b1)
  clear HS HF b1
  go_wp2_with fail
  refine HS1.out.mono ?_
  rintro e w2 ⟨rfl, m1, f1⟩
  have K1 : Hid (Lc w2 g ga n (m : Int) ys ∧ Fp (· = g) w w2) := ⟨m1, (Fp.of BW1.out).tr (f1.wide fun k _ hk => .inl hk)⟩
  clear m1 f1
  go_wp2_with fail
  go_ret
  exact ⟨rfl, K1.out⟩
set_option maxHeartbeats 1000000 in
theorem newlist_any (a : Option Addr) (n c : Nat) (xs : List E) (w : World) (H : Ents w a n c xs) (hbig : n * 48 ≤ 140737488355328) :
    Calls Try.prog 15 #[.slice a n c] w fun e w' => ∃ g ga, e = .returned (.pointer (some ⟨g, 0, none⟩)) ∧ w.heap.size ≤ g ∧ w.heap.size ≤ ga ∧ Lc w' g ga n (-1) (srtE xs) ∧ Below w.heap.size w w' := by
  have HS := hid (sorted_any a n c xs w H hbig)
  have hl : Hid ((srtE xs).length = n) := by show _ = _; rw [srtE_len]; exact H.1
  have hok : Hid (∀ x ∈ srtE xs, x.ok) := srtE_ok H.2.2.2.1
  clear H
  go_enter Try.func15, Try.ntmps15
  go_wp2_with fail
  refine HS.out.mono ?_
  rintro e w1 ⟨ga, rfl, hga, R, b1⟩
  have hlt := R.lt
  have K : Hid (Lc (w1.alloc (.cells #[.slice (some ⟨ga, 0, none⟩) n n, .int .i64 (-1)] 65)) w1.heap.size ga n (-1) (srtE xs)) :=
    ⟨new_at _ _, R.later (box_below _ _), by omega, hl.out, hok.out⟩
  have b2 : Hid (Below w.heap.size w (w1.alloc (.cells #[.slice (some ⟨ga, 0, none⟩) n n, .int .i64 (-1)] 65))) := Below.up b1 (box_below _ _)
  have hg : Hid (w.heap.size ≤ w1.heap.size) := b1.size
  replace hga := hid hga
  clear R b1 HS hlt
  go_wp2_with fail
  go_ret
  exact ⟨w1.heap.size, ga, rfl, hg.out, hga.out, K.out, b2.out⟩
end Go.Proofs.Ytgjodfaliajlgaa.Lm9
