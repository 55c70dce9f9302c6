/- The document's Get of entries in their order and tombs: its answer is the one alone. -/
import Derived.Test.YtefihoohdaegeaaDg
namespace Go.Proofs.Ytefihoohdaegeaa.Dh
open Go.ChangeShapes Go.WideShapes Go.ChangeAt Go.RowKit Go.Shelf
open Go.Proofs.Ytefihoohdaegeaa.Lx
open Go.Proofs.Ytefihoohdaegeaa.Ik
open Go.Proofs.Ytefihoohdaegeaa.Sg
open Go.Proofs.Ytefihoohdaegeaa.Ee (E ze Ents At4)
open Go.Proofs.Ytefihoohdaegeaa.Tm (T zt Tbs)
open Go.Proofs.Ytefihoohdaegeaa.Cv (hit)
open Go.Proofs.Ytefihoohdaegeaa.An
open Go.Proofs.Ytefihoohdaegeaa.Mm (box_below)
open Go.Proofs.Ytefihoohdaegeaa.Nw (c4)
open Go.Proofs.Ytefihoohdaegeaa.Tr (new_at cell_of size_alloc blk_lt fz_of set_of set_ne)
set_option linter.unusedVariables false
set_option linter.unusedSimpArgs false
attribute [local go_sem] leq_s gtr_s geq_s

def mt (k : ByteArray) (q : Int) (x : E) : Prop := x.k = k ∧ x.s ≤ q
/-- What the first loop has found. -/
def Fst (es : List E) (k : ByteArray) (q : Int) (i : Nat) (b : Bool) (x : E) : Prop :=
  (b = false ∧ x = ze ∧ ∀ j, j < i → ¬ mt k q (es.getD j ze)) ∨ (b = true ∧ ∃ j, j < es.length ∧ x = es.getD j ze ∧ mt k q x ∧ ∀ j', j' < j → ¬ mt k q (es.getD j' ze))
/-- What the second has. -/
def Cvr (ts : List T) (k : ByteArray) (q : Int) (i : Nat) (b : Bool) (s : Int) : Prop :=
  (b = false ∧ s = 0 ∧ ∀ j, j < i → hit k q (ts.getD j zt) = false) ∨ (b = true ∧ (∃ j, j < i ∧ hit k q (ts.getD j zt) = true ∧ s = (ts.getD j zt).s) ∧ ∀ j, j < i → hit k q (ts.getD j zt) = true → (ts.getD j zt).s ≤ s)
theorem Cvr.no {ts : List T} {k : ByteArray} {q : Int} {i : Nat} {b : Bool} {s : Int} (h : Cvr ts k q i b s) (hn : hit k q (ts.getD i zt) = false) : Cvr ts k q (i + 1) b s := by
  rcases h with ⟨h1, h2, h3⟩ | ⟨h1, ⟨j, h2, h3, h4⟩, h5⟩
  · refine .inl ⟨h1, h2, fun j hj => ?_⟩
    by_cases e : j = i
    · rw [e]; exact hn
    · exact h3 j (by omega)
  · refine .inr ⟨h1, ⟨j, by omega, h3, h4⟩, fun j hj hh => ?_⟩
    by_cases e : j = i
    · rw [e, hn] at hh; cases hh
    · exact h5 j (by omega) hh
theorem Cvr.less {ts : List T} {k : ByteArray} {q : Int} {i : Nat} {s : Int} (h : Cvr ts k q i true s) (hn : (ts.getD i zt).s ≤ s) : Cvr ts k q (i + 1) true s := by
  rcases h with ⟨h1, h2, h3⟩ | ⟨h1, ⟨j, h2, h3, h4⟩, h5⟩
  · cases h1
  · refine .inr ⟨rfl, ⟨j, by omega, h3, h4⟩, fun j hj hh => ?_⟩
    by_cases e : j = i
    · rw [e]; exact hn
    · exact h5 j (by omega) hh
theorem Cvr.yes {ts : List T} {k : ByteArray} {q : Int} {i : Nat} {b : Bool} {s : Int} (h : Cvr ts k q i b s) (hy : hit k q (ts.getD i zt) = true) (hg : b = false ∨ s < (ts.getD i zt).s) : Cvr ts k q (i + 1) true (ts.getD i zt).s := by
  refine .inr ⟨rfl, ⟨i, by omega, hy, rfl⟩, fun j hj hh => ?_⟩
  by_cases e : j = i
  · rw [e]; exact Int.le_refl _
  · rcases h with ⟨h1, h2, h3⟩ | ⟨h1, ⟨j', h2, h3, h4⟩, h5⟩
    · rw [h3 j (by omega)] at hh; cases hh
    · have := h5 j (by omega) hh
      rcases hg with h | h
      · rw [h1] at h; cases h
      · omega
theorem mem_at {α : Type} {l : List α} {d x : α} (h : x ∈ l) : ∃ j, j < l.length ∧ l.getD j d = x := by
  obtain ⟨j, hj, e⟩ := List.getElem_of_mem h
  exact ⟨j, hj, by rw [List.getD_eq_getElem?_getD, List.getElem?_eq_getElem hj]; exact e⟩
theorem at_mem {α : Type} {l : List α} {d : α} {j : Nat} (h : j < l.length) : l.getD j d ∈ l := by
  rw [List.getD_eq_getElem?_getD, List.getElem?_eq_getElem h]; exact List.getElem_mem h
/-- The first that is seen is the newest. -/
theorem fst_new {es : List E} (hs : es.Pairwise (fun a b => cmp a.ik b.ik < 0)) {k : ByteArray} {q : Int} {j : Nat} (hj : j < es.length) (hm : mt k q (es.getD j ze)) (hf : ∀ j', j' < j → ¬ mt k q (es.getD j' ze)) :
    ∀ e' ∈ es, e'.k = k → e'.s ≤ q → e'.s < (es.getD j ze).s ∨ (e'.s = (es.getD j ze).s ∧ e'.c ≤ (es.getD j ze).c) := by
  intro e' he h1 h2
  obtain ⟨i, hi, rfl⟩ := mem_at (d := ze) he
  by_cases hij : i = j
  · rw [hij]; exact .inr ⟨rfl, Int.le_refl _⟩
  · have hlt : j < i := by
      rcases Nat.lt_or_ge i j with h | h
      · exact absurd ⟨h1, h2⟩ (hf i h)
      · omega
    have hr := List.pairwise_iff_getElem.1 hs j i hj hi hlt
    have ej : es.getD j ze = es[j] := by rw [List.getD_eq_getElem?_getD, List.getElem?_eq_getElem hj]; rfl
    have ei : es.getD i ze = es[i] := by rw [List.getD_eq_getElem?_getD, List.getElem?_eq_getElem hi]; rfl
    rw [← ej, ← ei, cmp_lt] at hr
    rcases hr with h | ⟨h, h' | ⟨h', h''⟩⟩
    · have a : (es.getD j ze).k.data.toList < (es.getD i ze).k.data.toList := h
      rw [h1, hm.1] at a
      exact absurd a (lt_irrefl _)
    · exact .inl h'
    · exact .inr ⟨h'.symm, by have : (es.getD i ze).c < (es.getD j ze).c := h''; omega⟩
/-- The answer. -/
theorem ans_of {es : List E} {ts : List T} (hs : es.Pairwise (fun a b => cmp a.ik b.ik < 0)) (ht1 : ∀ t ∈ ts, 1 ≤ t.s) {k : ByteArray} {q : Int} {b cb : Bool} {x : E} {cs : Int} (hF : Fst es k q es.length b x) (hC : Cvr ts k q ts.length cb cs) :
    (cb = true ∧ (b = false ∨ x.s < cs) → Ans es ts k q (⟨k, cs, 2, ⟨#[]⟩⟩, true)) ∧ (¬ (cb = true ∧ (b = false ∨ x.s < cs)) → Ans es ts k q (x, b)) := by
  have none_e : b = false → ∀ e ∈ es, e.k = k → e.s ≤ q → False := fun hb e he h1 h2 => by
    obtain ⟨j, hj, rfl⟩ := mem_at (d := ze) he
    rcases hF with ⟨_, _, h3⟩ | ⟨h1', _⟩
    · exact h3 j hj ⟨h1, h2⟩
    · rw [hb] at h1'; cases h1'
  have new_e : b = true → x ∈ es ∧ x.k = k ∧ x.s ≤ q ∧ ∀ e' ∈ es, e'.k = k → e'.s ≤ q → e'.s < x.s ∨ (e'.s = x.s ∧ e'.c ≤ x.c) := fun hb => by
    rcases hF with ⟨h1', _⟩ | ⟨_, j, hj, rfl, hm, hf⟩
    · rw [hb] at h1'; cases h1'
    · exact ⟨at_mem hj, hm.1, hm.2, fst_new hs hj hm hf⟩
  have none_t : cb = false → ∀ t ∈ ts, hit k q t = true → False := fun hb t ht hh => by
    obtain ⟨j, hj, rfl⟩ := mem_at (d := zt) ht
    rcases hC with ⟨_, _, h3⟩ | ⟨h1', _⟩
    · rw [h3 j hj] at hh; cases hh
    · rw [hb] at h1'; cases h1'
  have new_t : cb = true → ∃ t ∈ ts, hit k q t = true ∧ t.s = cs ∧ ∀ t' ∈ ts, hit k q t' = true → t'.s ≤ cs := fun hb => by
    rcases hC with ⟨h1', _⟩ | ⟨_, ⟨j, hj, h3, h4⟩, h5⟩
    · rw [hb] at h1'; cases h1'
    · refine ⟨_, at_mem hj, h3, h4.symm, fun t' ht' hh => ?_⟩
      obtain ⟨i, hi, rfl⟩ := mem_at (d := zt) ht'
      exact h5 i hi hh
  constructor
  · rintro ⟨h1, h2⟩
    obtain ⟨t, ht, hh, rfl, hm⟩ := new_t h1
    refine .tmb t ht hh hm (fun e he k1 k2 => ?_)
    rcases h2 with h2 | h2
    · exact (none_e h2 e he k1 k2).elim
    · cases hb : b with
      | false => exact (none_e hb e he k1 k2).elim
      | true => have := (new_e hb).2.2.2 e he k1 k2; omega
  · intro h
    cases hb : b with
    | false =>
      have hcb : cb = false := by cases hc : cb with
        | false => rfl
        | true => exact absurd ⟨hc, .inl hb⟩ h
      have hx : x = ze := by
        rcases hF with ⟨_, h2, _⟩ | ⟨h1', _⟩
        · exact h2
        · rw [hb] at h1'; cases h1'
      rw [hx]
      exact .non (none_e hb) (none_t hcb)
    | true =>
      obtain ⟨n1, n2, n3, n4⟩ := new_e hb
      refine .ent x n1 n2 n3 n4 (fun t ht hh => ?_)
      cases hc : cb with
      | false => exact (none_t hc t ht hh).elim
      | true =>
        obtain ⟨_, _, _, _, hm⟩ := new_t hc
        have h1 := hm t ht hh
        have h2 : ¬ x.s < cs := fun h' => h ⟨hc, .inr h'⟩
        omega
set_option maxHeartbeats 8000000 in
set_option maxRecDepth 100000 in
theorem rget_any (ea ta : Option Addr) (el ec tl tc : Nat) (es : List E) (ts : List T) (k : ByteArray) (q : Int) (w : World) (HE : Ents w ea el ec es) (HT : Tbs w ta tl tc ts) (hl : el ≤ 1048576) (htl : tl ≤ 140737488355328) (hs : es.Pairwise (fun a b => cmp a.ik b.ik < 0)) (ht1 : ∀ t ∈ ts, 1 ≤ t.s) :
    Calls Try.prog 48 #[.slice ea el ec, .slice ta tl tc, .string k, .int .u64 q] w fun e w' => ∃ rk rs rc rv rb, e = .returned (.tuple #[.agg #[.string rk, .int .u64 rs, .int .i64 rc, .string rv], .bool rb]) ∧ Ans es ts k q (⟨rk, rs, rc, rv⟩, rb) ∧ Below w.heap.size w w' := by
  obtain ⟨g8, hg8⟩ : ∃ n, n = w.heap.size := ⟨_, rfl⟩
  obtain ⟨g10, hg10⟩ : ∃ n, g8 + 1 = n := ⟨_, rfl⟩
  obtain ⟨W0, hW0⟩ : ∃ W, W = (w.alloc (.cells #[.string ⟨#[]⟩, .int .u64 0, .int .i64 0, .string ⟨#[]⟩] 56)).alloc (.cells #[.string ⟨#[]⟩, .int .u64 0, .int .i64 0, .string ⟨#[]⟩] 56) := ⟨_, rfl⟩
  have b0 := box_below w (.cells #[.string ⟨#[]⟩, .int .u64 0, .int .i64 0, .string ⟨#[]⟩] 56)
  have k8 := new_at w (.cells #[.string ⟨#[]⟩, .int .u64 0, .int .i64 0, .string ⟨#[]⟩] 56)
  have s8 := size_alloc w (.cells #[.string ⟨#[]⟩, .int .u64 0, .int .i64 0, .string ⟨#[]⟩] 56)
  have B0 : Below g8 w W0 := by rw [hW0, hg8]; exact b0.trans ((box_below _ _).mono (by omega))
  have K8 : W0.heap[g8]? = some (.cells #[.string ⟨#[]⟩, .int .u64 0, .int .i64 0, .string ⟨#[]⟩] 56) := by rw [hW0, hg8]; exact ((box_below _ _).block _ (by omega)).trans k8
  have K10 : W0.heap[g10]? = some (.cells #[.string ⟨#[]⟩, .int .u64 0, .int .i64 0, .string ⟨#[]⟩] 56) := by rw [hW0, ← hg10, hg8, ← s8]; exact new_at _ _
  have hxl := hid HE.1
  have htl' := hid HT.1
  have EE : Hid (∀ W, Below g8 w W → Ents W ea el ec es) := fun W hb => Ee.Ents.later HE (by rw [← hg8]; exact hb)
  have TT : Hid (∀ W, Below g8 w W → Tbs W ta tl tc ts) := fun W hb => Tm.Tbs.later HT (by rw [← hg8]; exact hb)
  replace B0 := hid B0
  replace K8 := hid K8
  replace K10 := hid K10
  replace hW0 := hid hW0
  replace hg8 := hid hg8
  replace hg10 := hid hg10
  replace hs := hid hs
  replace ht1 := hid ht1
  clear b0 k8 s8 HE HT
  go_enter Try.func48, Try.ntmps48
  go_wp2_with fail
  rw [← hW0.out, ← hg8.out, hg10.out]
  go_loopw [11, 12] (fun bv iv wr => ∃ (i : Nat) (b : Bool) (xk : ByteArray) (xs xc : Int) (xv : ByteArray), i ≤ el ∧ iv = .int .i64 (i : Int) ∧ bv = .bool b ∧ Hid (Fst es k q i b ⟨xk, xs, xc, xv⟩) ∧ Hid (wr.heap[g8]? = some (.cells #[.string ⟨#[]⟩, .int .u64 0, .int .i64 0, .string ⟨#[]⟩] 56)) ∧ Hid (wr.heap[g10]? = some (.cells #[.string xk, .int .u64 xs, .int .i64 xc, .string xv] 56)) ∧ Hid (Below g8 w wr))
    (fun _ iv _ => el - (intOf iv).toNat)
  case atStart => exact ⟨0, false, ⟨#[]⟩, 0, 0, ⟨#[]⟩, Nat.zero_le _, rfl, rfl, .inl ⟨rfl, rfl, fun j hj => by omega⟩, K8, K10, B0⟩
  case round =>
    obtain ⟨i, b, xk, xs, xc, xv, hi', rfl, rfl, HF, H8, H10, HB⟩ := hrel
    by_cases hlt : i < el
    · have i1 : (i : Int) < (el : Int) := by omega
      have i1d : decide ((i : Int) < (el : Int)) = true := by simpa using i1
      cases b with
      | true =>
        have F1 : Hid (Fst es k q es.length true ⟨xk, xs, xc, xv⟩) := by
          rcases HF.out with ⟨h1, _⟩ | h
          · cases h1
          · exact .inr h
        replace HF := F1
        clear F1
        go_wp2_with fail
        go_loopw [13, 14, 15] (fun sv cv jv wr => ∃ (j : Nat) (cb : Bool) (cs : Int), j ≤ tl ∧ jv = .int .i64 (j : Int) ∧ cv = .bool cb ∧ sv = .int .u64 cs ∧ Hid (Cvr ts k q j cb cs) ∧ Hid (wr.heap[g8]? = some (.cells #[.string ⟨#[]⟩, .int .u64 0, .int .i64 0, .string ⟨#[]⟩] 56)) ∧ Hid (wr.heap[g10]? = some (.cells #[.string xk, .int .u64 xs, .int .i64 xc, .string xv] 56)) ∧ Hid (Below g8 w wr))
          (fun _ _ jv _ => tl - (intOf jv).toNat)
        case atStart => exact ⟨0, false, 0, Nat.zero_le _, rfl, rfl, rfl, .inl ⟨rfl, rfl, fun j hj => by omega⟩, H8, H10, HB⟩
        case round =>
          obtain ⟨j, cb, cs, hj', rfl, rfl, rfl, HC, H8, H10, HB⟩ := hrel
          by_cases hjt : j < tl
          · have j1 : (j : Int) < (tl : Int) := by omega
            have hA := TT.out wr HB.out
            obtain ⟨ad, rfl⟩ : ∃ ad, ta = some ad := by
              cases ta with
              | none => have := (hA.2.2.1 rfl).1; omega
              | some ad => exact ⟨ad, rfl⟩
            obtain ⟨tb', to, tsp⟩ := ad
            obtain ⟨hsp, hat⟩ := hA.2.2.2.2 tb' to tsp rfl (by omega)
            subst hsp
            have hcp := hA.2.1
            obtain ⟨d0, d1, d2⟩ := hat j hjt
            obtain ⟨y, hy⟩ : ∃ y, y = ts.getD j zt := ⟨_, rfl⟩
            rw [← hy] at d0 d1 d2
            obtain ⟨yb, ye, ys⟩ := y
            dsimp only at d0 d1 d2
            have hht : hit k q ⟨yb, ye, ys⟩ = (!(Op.bytesLess k.toList yb.toList) && Op.bytesLess k.toList ye.toList && decide (ys ≤ q)) := rfl
            have NO : Hid (hit k q ⟨yb, ye, ys⟩ = false → Cvr ts k q (j + 1) cb cs) := fun h => HC.out.no (by rw [← hy]; exact h)
            have LE : Hid (cb = true → ys ≤ cs → Cvr ts k q (j + 1) cb cs) := fun h h' => by subst h; exact HC.out.less (by rw [← hy]; exact h')
            have YE : Hid (hit k q ⟨yb, ye, ys⟩ = true → (cb = false ∨ cs < ys) → Cvr ts k q (j + 1) true ys) := fun h h' => by have := HC.out.yes (by rw [← hy]; exact h) (by rw [← hy]; exact h'); rw [← hy] at this; exact this
            have bb : Below wr.heap.size wr (wr.alloc (.cells #[.string yb, .string ye, .int .u64 ys] 111)) := box_below _ _
            have G8 := hid ((bb.block g8 (blk_lt H8.out)).trans H8.out)
            have G10 := hid ((bb.block g10 (blk_lt H10.out)).trans H10.out)
            have GB := hid (HB.out.trans (bb.mono (by have := blk_lt H8.out; omega)))
            replace hA := hid hA
            replace hy := hid hy
            clear hat bb H8 H10 HB HC
            cases c1 : Op.bytesLess k.toList yb.toList with
            | true =>
              have F2 := hid (NO.out (by rw [hht, c1]; rfl))
              clear NO LE YE
              go_wp2_with fail
              refine ⟨⟨j + 1, cb, cs, by omega, by first | rfl | go_num, rfl, rfl, F2, G8, G10, GB⟩, ?_⟩
              simp only [intOf]; omega
            | false =>
              cases c2 : Op.bytesLess k.toList ye.toList with
              | false =>
                have F2 := hid (NO.out (by rw [hht, c1, c2]; rfl))
                clear NO LE YE
                go_wp2_with fail
                refine ⟨⟨j + 1, cb, cs, by omega, by first | rfl | go_num, rfl, rfl, F2, G8, G10, GB⟩, ?_⟩
                simp only [intOf]; omega
              | true =>
                by_cases c3 : ys ≤ q
                · have hh : hit k q ⟨yb, ye, ys⟩ = true := by rw [hht, c1, c2]; simp [c3]
                  cases cb with
                  | false =>
                    have F2 := hid (YE.out hh (.inl rfl))
                    clear NO LE YE
                    go_wp2_with fail
                    refine ⟨⟨j + 1, true, ys, by omega, by first | rfl | go_num, rfl, rfl, F2, G8, G10, GB⟩, ?_⟩
                    simp only [intOf]; omega
                  | true =>
                    by_cases c4 : cs < ys
                    · have F2 := hid (YE.out hh (.inr c4))
                      clear NO LE YE
                      go_wp2_with fail
                      refine ⟨⟨j + 1, true, ys, by omega, by first | rfl | go_num, rfl, rfl, F2, G8, G10, GB⟩, ?_⟩
                      simp only [intOf]; omega
                    · have F2 := hid (LE.out rfl (by omega))
                      have c4' : ys ≤ cs := by omega
                      clear NO LE YE
                      go_wp2_with fail
                      refine ⟨⟨j + 1, true, cs, by omega, by first | rfl | go_num, rfl, rfl, F2, G8, G10, GB⟩, ?_⟩
                      simp only [intOf]; omega
                · have F2 := hid (NO.out (by rw [hht, c1, c2]; simp [c3]))
                  have c3' : q < ys := by omega
                  clear NO LE YE
                  go_wp2_with fail
                  refine ⟨⟨j + 1, cb, cs, by omega, by first | rfl | go_num, rfl, rfl, F2, G8, G10, GB⟩, ?_⟩
                  simp only [intOf]; omega
          · have j1 : ¬ (j : Int) < (tl : Int) := by omega
            have C1 : Hid (Cvr ts k q ts.length cb cs) := by rw [htl'.out, show tl = j by omega]; exact HC
            obtain ⟨A1, A2⟩ := ans_of hs.out ht1.out HF.out C1.out
            have x1 := cell_of H10.out 1 (.int .u64 xs) rfl
            have x0 := cell_of H10.out 0 (.string xk) rfl
            have x2 := cell_of H10.out 2 (.int .i64 xc) rfl
            have x3 := cell_of H10.out 3 (.string xv) rfl
            have z0 := cell_of H8.out 0 (.string ⟨#[]⟩) rfl
            have z1 := cell_of H8.out 1 (.int .u64 0) rfl
            have z2 := cell_of H8.out 2 (.int .i64 0) rfl
            have z3 := cell_of H8.out 3 (.string ⟨#[]⟩) rfl
            have f0 := fz_of H8.out 0
            have f1 := fz_of H8.out 1
            have f2 := fz_of H8.out 2
            have f3 := fz_of H8.out 3
            have PUT : Hid (∀ rk rs rc rv, ((((wr.setCell ⟨g8, 0, none⟩ (.string rk)).setCell ⟨g8, 1, none⟩ (.int .u64 rs)).setCell ⟨g8, 2, none⟩ (.int .i64 rc)).setCell ⟨g8, 3, none⟩ (.string rv)).heap[g8]? = some (.cells #[.string rk, .int .u64 rs, .int .i64 rc, .string rv] 56) ∧ Below g8 w ((((wr.setCell ⟨g8, 0, none⟩ (.string rk)).setCell ⟨g8, 1, none⟩ (.int .u64 rs)).setCell ⟨g8, 2, none⟩ (.int .i64 rc)).setCell ⟨g8, 3, none⟩ (.string rv))) := fun rk rs rc rv => by
              have h0 : (wr.setCell ⟨g8, 0, none⟩ (.string rk)).heap[g8]? = some (.cells #[.string rk, .int .u64 0, .int .i64 0, .string ⟨#[]⟩] 56) := (set_of H8.out 0 _).trans rfl
              have h1 : ((wr.setCell ⟨g8, 0, none⟩ (.string rk)).setCell ⟨g8, 1, none⟩ (.int .u64 rs)).heap[g8]? = some (.cells #[.string rk, .int .u64 rs, .int .i64 0, .string ⟨#[]⟩] 56) := (set_of h0 1 _).trans rfl
              have h2 : (((wr.setCell ⟨g8, 0, none⟩ (.string rk)).setCell ⟨g8, 1, none⟩ (.int .u64 rs)).setCell ⟨g8, 2, none⟩ (.int .i64 rc)).heap[g8]? = some (.cells #[.string rk, .int .u64 rs, .int .i64 rc, .string ⟨#[]⟩] 56) := (set_of h1 2 _).trans rfl
              exact ⟨(set_of h2 3 _).trans rfl, (((HB.out.setCell (p := ⟨g8, 0, none⟩) (Nat.le_refl _) _).setCell (p := ⟨g8, 1, none⟩) (Nat.le_refl _) _).setCell (p := ⟨g8, 2, none⟩) (Nat.le_refl _) _).setCell (p := ⟨g8, 3, none⟩) (Nat.le_refl _) _⟩
            clear H8 H10 HB HC HF C1
            cases cb with
            | false =>
              have AN := A2 (by simp)
              replace AN := hid AN
              clear A1 A2
              go_wp2_with fail
              obtain ⟨KZ, BZ⟩ := PUT.out xk xs xc xv
              generalize (((wr.setCell ⟨g8, 0, none⟩ (.string xk)).setCell ⟨g8, 1, none⟩ (.int .u64 xs)).setCell ⟨g8, 2, none⟩ (.int .i64 xc)).setCell ⟨g8, 3, none⟩ (.string xv) = WZ at *
              have q0 := cell_of KZ 0 (.string xk) rfl
              have q1 := cell_of KZ 1 (.int .u64 xs) rfl
              have q2 := cell_of KZ 2 (.int .i64 xc) rfl
              have q3 := cell_of KZ 3 (.string xv) rfl
              refine bodyPost_ret (v := .tuple #[.agg #[.string xk, .int .u64 xs, .int .i64 xc, .string xv], .bool true]) (by simp [results, Try.results48, go_sem, q0, q1, q2, q3]) rfl ⟨_, _, _, _, .inr ⟨rfl, AN.out, ?_⟩⟩
              rw [← hg8.out]
              exact BZ
            | true =>
              by_cases c5 : xs < cs
              · have AN := A1 ⟨rfl, .inr c5⟩
                replace AN := hid AN
                clear A1 A2
                go_wp2_with fail
                obtain ⟨KZ, BZ⟩ := PUT.out k cs 2 ⟨#[]⟩
                generalize (((wr.setCell ⟨g8, 0, none⟩ (.string k)).setCell ⟨g8, 1, none⟩ (.int .u64 cs)).setCell ⟨g8, 2, none⟩ (.int .i64 2)).setCell ⟨g8, 3, none⟩ (.string ⟨#[]⟩) = WZ at *
                have q0 := cell_of KZ 0 (.string k) rfl
                have q1 := cell_of KZ 1 (.int .u64 cs) rfl
                have q2 := cell_of KZ 2 (.int .i64 2) rfl
                have q3 := cell_of KZ 3 (.string ⟨#[]⟩) rfl
                refine bodyPost_ret (v := .tuple #[.agg #[.string k, .int .u64 cs, .int .i64 2, .string ⟨#[]⟩], .bool true]) (by simp [results, Try.results48, go_sem, q0, q1, q2, q3]) rfl ⟨_, _, _, _, .inr ⟨rfl, AN.out, ?_⟩⟩
                rw [← hg8.out]
                exact BZ
              · have AN := A2 (by rintro ⟨_, h | h⟩; cases h; exact c5 h)
                have c5' : cs ≤ xs := by omega
                replace AN := hid AN
                clear A1 A2
                go_wp2_with fail
                obtain ⟨KZ, BZ⟩ := PUT.out xk xs xc xv
                generalize (((wr.setCell ⟨g8, 0, none⟩ (.string xk)).setCell ⟨g8, 1, none⟩ (.int .u64 xs)).setCell ⟨g8, 2, none⟩ (.int .i64 xc)).setCell ⟨g8, 3, none⟩ (.string xv) = WZ at *
                have q0 := cell_of KZ 0 (.string xk) rfl
                have q1 := cell_of KZ 1 (.int .u64 xs) rfl
                have q2 := cell_of KZ 2 (.int .i64 xc) rfl
                have q3 := cell_of KZ 3 (.string xv) rfl
                refine bodyPost_ret (v := .tuple #[.agg #[.string xk, .int .u64 xs, .int .i64 xc, .string xv], .bool true]) (by simp [results, Try.results48, go_sem, q0, q1, q2, q3]) rfl ⟨_, _, _, _, .inr ⟨rfl, AN.out, ?_⟩⟩
                rw [← hg8.out]
                exact BZ
      | false =>
        have hA := EE.out wr HB.out
        obtain ⟨ad, rfl⟩ : ∃ ad, ea = some ad := by
          cases ea with
          | none => have := (hA.2.2.1 rfl).1; omega
          | some ad => exact ⟨ad, rfl⟩
        obtain ⟨pb, po, psp⟩ := ad
        obtain ⟨hsp, hat⟩ := hA.2.2.2.2 pb po psp rfl (by omega)
        subst hsp
        have hcp := hA.2.1
        obtain ⟨d0, d1, d2, d3⟩ := hat i hlt
        obtain ⟨y, hy⟩ : ∃ y, y = es.getD i ze := ⟨_, rfl⟩
        rw [← hy] at d0 d1 d2 d3
        obtain ⟨yk, ys, yc, yv⟩ := y
        dsimp only at d0 d1 d2 d3
        have old : Hid (∀ j, j < i → ¬ mt k q (es.getD j ze)) := by
          rcases HF.out with ⟨_, _, h3⟩ | ⟨h1, _⟩
          · exact h3
          · cases h1
        have hx : (⟨xk, xs, xc, xv⟩ : E) = ze := by
          rcases HF.out with ⟨_, h2, _⟩ | ⟨h1, _⟩
          · exact h2
          · cases h1
        have NX : Hid (¬ mt k q ⟨yk, ys, yc, yv⟩ → Fst es k q (i + 1) false ⟨xk, xs, xc, xv⟩) := fun hno => .inl ⟨rfl, hx, fun j hj => by
          by_cases e : j = i
          · rw [e, ← hy]; exact hno
          · exact old.out j (by omega)⟩
        have YS : Hid (mt k q ⟨yk, ys, yc, yv⟩ → Fst es k q (i + 1) true ⟨yk, ys, yc, yv⟩) := fun hm => .inr ⟨rfl, i, by have := hxl.out; omega, hy, hm, old.out⟩
        replace hA := hid hA
        replace hy := hid hy
        replace hx := hid hx
        clear hat
        by_cases hb : yk = k
        · have tb : (yk.toList == k.toList) = true := by rw [hb]; simp
          by_cases hsq : ys ≤ q
          · have F2 := hid (YS.out ⟨hb, hsq⟩)
            have z0 := cell_of H10.out 0 (.string xk) rfl
            have z1 := cell_of H10.out 1 (.int .u64 xs) rfl
            have z2 := cell_of H10.out 2 (.int .i64 xc) rfl
            have z3 := cell_of H10.out 3 (.string xv) rfl
            have f0 := fz_of H10.out 0
            have f1 := fz_of H10.out 1
            have f2 := fz_of H10.out 2
            have f3 := fz_of H10.out 3
            have K4 : ((((wr.setCell ⟨g10, 0, none⟩ (.string yk)).setCell ⟨g10, 1, none⟩ (.int .u64 ys)).setCell ⟨g10, 2, none⟩ (.int .i64 yc)).setCell ⟨g10, 3, none⟩ (.string yv)).heap[g10]? = some (.cells #[.string yk, .int .u64 ys, .int .i64 yc, .string yv] 56) := by
              have h0 : (wr.setCell ⟨g10, 0, none⟩ (.string yk)).heap[g10]? = some (.cells #[.string yk, .int .u64 xs, .int .i64 xc, .string xv] 56) := (set_of H10.out 0 _).trans rfl
              have h1 : ((wr.setCell ⟨g10, 0, none⟩ (.string yk)).setCell ⟨g10, 1, none⟩ (.int .u64 ys)).heap[g10]? = some (.cells #[.string yk, .int .u64 ys, .int .i64 xc, .string xv] 56) := (set_of h0 1 _).trans rfl
              have h2 : (((wr.setCell ⟨g10, 0, none⟩ (.string yk)).setCell ⟨g10, 1, none⟩ (.int .u64 ys)).setCell ⟨g10, 2, none⟩ (.int .i64 yc)).heap[g10]? = some (.cells #[.string yk, .int .u64 ys, .int .i64 yc, .string xv] 56) := (set_of h1 2 _).trans rfl
              exact (set_of h2 3 _).trans rfl
            have K8' : ((((wr.setCell ⟨g10, 0, none⟩ (.string yk)).setCell ⟨g10, 1, none⟩ (.int .u64 ys)).setCell ⟨g10, 2, none⟩ (.int .i64 yc)).setCell ⟨g10, 3, none⟩ (.string yv)).heap[g8]? = some (.cells #[.string ⟨#[]⟩, .int .u64 0, .int .i64 0, .string ⟨#[]⟩] 56) := by
              have hne : g8 ≠ g10 := by have := hg10.out; omega
              rw [set_ne _ _ _ _ _ hne, set_ne _ _ _ _ _ hne, set_ne _ _ _ _ _ hne, set_ne _ _ _ _ _ hne]; exact H8.out
            have hge : g8 ≤ g10 := by have := hg10.out; omega
            have B4 : Below g8 w ((((wr.setCell ⟨g10, 0, none⟩ (.string yk)).setCell ⟨g10, 1, none⟩ (.int .u64 ys)).setCell ⟨g10, 2, none⟩ (.int .i64 yc)).setCell ⟨g10, 3, none⟩ (.string yv)) := (((HB.out.setCell (p := ⟨g10, 0, none⟩) hge _).setCell (p := ⟨g10, 1, none⟩) hge _).setCell (p := ⟨g10, 2, none⟩) hge _).setCell (p := ⟨g10, 3, none⟩) hge _
            replace K4 := hid K4
            replace K8' := hid K8'
            replace B4 := hid B4
            replace hb := hid hb
            clear YS NX HF H8 H10 HB hge
            go_wp2_with fail
            refine ⟨⟨i + 1, true, yk, ys, yc, yv, by omega, by first | rfl | go_num, rfl, F2, K8', K4, B4⟩, ?_⟩
            simp only [intOf]; omega
          · have F2 := hid (NX.out (fun h => hsq h.2))
            replace hb := hid hb
            clear YS NX HF
            go_wp2_with fail
            refine ⟨⟨i + 1, false, xk, xs, xc, xv, by omega, by first | rfl | go_num, rfl, F2, H8, H10, HB⟩, ?_⟩
            simp only [intOf]; omega
        · have tb : (yk.toList == k.toList) = false := Da.text_ne hb
          have F2 := hid (NX.out (fun h => hb h.1))
          replace hb := hid hb
          clear YS NX HF
          go_wp2_with fail
          refine ⟨⟨i + 1, false, xk, xs, xc, xv, by omega, by first | rfl | go_num, rfl, F2, H8, H10, HB⟩, ?_⟩
          simp only [intOf]; omega
    · have i1 : ¬ (i : Int) < (el : Int) := by omega
      have i1d : decide ((i : Int) < (el : Int)) = false := by simpa using i1
      cases b with
      | true =>
        have F1 : Hid (Fst es k q es.length true ⟨xk, xs, xc, xv⟩) := by rw [hxl.out, show el = i by omega]; exact HF
        replace HF := F1
        clear F1
        go_wp2_with fail
        go_loopw [13, 14, 15] (fun sv cv jv wr => ∃ (j : Nat) (cb : Bool) (cs : Int), j ≤ tl ∧ jv = .int .i64 (j : Int) ∧ cv = .bool cb ∧ sv = .int .u64 cs ∧ Hid (Cvr ts k q j cb cs) ∧ Hid (wr.heap[g8]? = some (.cells #[.string ⟨#[]⟩, .int .u64 0, .int .i64 0, .string ⟨#[]⟩] 56)) ∧ Hid (wr.heap[g10]? = some (.cells #[.string xk, .int .u64 xs, .int .i64 xc, .string xv] 56)) ∧ Hid (Below g8 w wr))
          (fun _ _ jv _ => tl - (intOf jv).toNat)
        case atStart => exact ⟨0, false, 0, Nat.zero_le _, rfl, rfl, rfl, .inl ⟨rfl, rfl, fun j hj => by omega⟩, H8, H10, HB⟩
        case round =>
          obtain ⟨j, cb, cs, hj', rfl, rfl, rfl, HC, H8, H10, HB⟩ := hrel
          by_cases hjt : j < tl
          · have j1 : (j : Int) < (tl : Int) := by omega
            have hA := TT.out wr HB.out
            obtain ⟨ad, rfl⟩ : ∃ ad, ta = some ad := by
              cases ta with
              | none => have := (hA.2.2.1 rfl).1; omega
              | some ad => exact ⟨ad, rfl⟩
            obtain ⟨tb', to, tsp⟩ := ad
            obtain ⟨hsp, hat⟩ := hA.2.2.2.2 tb' to tsp rfl (by omega)
            subst hsp
            have hcp := hA.2.1
            obtain ⟨d0, d1, d2⟩ := hat j hjt
            obtain ⟨y, hy⟩ : ∃ y, y = ts.getD j zt := ⟨_, rfl⟩
            rw [← hy] at d0 d1 d2
            obtain ⟨yb, ye, ys⟩ := y
            dsimp only at d0 d1 d2
            have hht : hit k q ⟨yb, ye, ys⟩ = (!(Op.bytesLess k.toList yb.toList) && Op.bytesLess k.toList ye.toList && decide (ys ≤ q)) := rfl
            have NO : Hid (hit k q ⟨yb, ye, ys⟩ = false → Cvr ts k q (j + 1) cb cs) := fun h => HC.out.no (by rw [← hy]; exact h)
            have LE : Hid (cb = true → ys ≤ cs → Cvr ts k q (j + 1) cb cs) := fun h h' => by subst h; exact HC.out.less (by rw [← hy]; exact h')
            have YE : Hid (hit k q ⟨yb, ye, ys⟩ = true → (cb = false ∨ cs < ys) → Cvr ts k q (j + 1) true ys) := fun h h' => by have := HC.out.yes (by rw [← hy]; exact h) (by rw [← hy]; exact h'); rw [← hy] at this; exact this
            have bb : Below wr.heap.size wr (wr.alloc (.cells #[.string yb, .string ye, .int .u64 ys] 111)) := box_below _ _
            have G8 := hid ((bb.block g8 (blk_lt H8.out)).trans H8.out)
            have G10 := hid ((bb.block g10 (blk_lt H10.out)).trans H10.out)
            have GB := hid (HB.out.trans (bb.mono (by have := blk_lt H8.out; omega)))
            replace hA := hid hA
            replace hy := hid hy
            clear hat bb H8 H10 HB HC
            cases c1 : Op.bytesLess k.toList yb.toList with
            | true =>
              have F2 := hid (NO.out (by rw [hht, c1]; rfl))
              clear NO LE YE
              go_wp2_with fail
              refine ⟨⟨j + 1, cb, cs, by omega, by first | rfl | go_num, rfl, rfl, F2, G8, G10, GB⟩, ?_⟩
              simp only [intOf]; omega
            | false =>
              cases c2 : Op.bytesLess k.toList ye.toList with
              | false =>
                have F2 := hid (NO.out (by rw [hht, c1, c2]; rfl))
                clear NO LE YE
                go_wp2_with fail
                refine ⟨⟨j + 1, cb, cs, by omega, by first | rfl | go_num, rfl, rfl, F2, G8, G10, GB⟩, ?_⟩
                simp only [intOf]; omega
              | true =>
                by_cases c3 : ys ≤ q
                · have hh : hit k q ⟨yb, ye, ys⟩ = true := by rw [hht, c1, c2]; simp [c3]
                  cases cb with
                  | false =>
                    have F2 := hid (YE.out hh (.inl rfl))
                    clear NO LE YE
                    go_wp2_with fail
                    refine ⟨⟨j + 1, true, ys, by omega, by first | rfl | go_num, rfl, rfl, F2, G8, G10, GB⟩, ?_⟩
                    simp only [intOf]; omega
                  | true =>
                    by_cases c4 : cs < ys
                    · have F2 := hid (YE.out hh (.inr c4))
                      clear NO LE YE
                      go_wp2_with fail
                      refine ⟨⟨j + 1, true, ys, by omega, by first | rfl | go_num, rfl, rfl, F2, G8, G10, GB⟩, ?_⟩
                      simp only [intOf]; omega
                    · have F2 := hid (LE.out rfl (by omega))
                      have c4' : ys ≤ cs := by omega
                      clear NO LE YE
                      go_wp2_with fail
                      refine ⟨⟨j + 1, true, cs, by omega, by first | rfl | go_num, rfl, rfl, F2, G8, G10, GB⟩, ?_⟩
                      simp only [intOf]; omega
                · have F2 := hid (NO.out (by rw [hht, c1, c2]; simp [c3]))
                  have c3' : q < ys := by omega
                  clear NO LE YE
                  go_wp2_with fail
                  refine ⟨⟨j + 1, cb, cs, by omega, by first | rfl | go_num, rfl, rfl, F2, G8, G10, GB⟩, ?_⟩
                  simp only [intOf]; omega
          · have j1 : ¬ (j : Int) < (tl : Int) := by omega
            have C1 : Hid (Cvr ts k q ts.length cb cs) := by rw [htl'.out, show tl = j by omega]; exact HC
            obtain ⟨A1, A2⟩ := ans_of hs.out ht1.out HF.out C1.out
            have x1 := cell_of H10.out 1 (.int .u64 xs) rfl
            have x0 := cell_of H10.out 0 (.string xk) rfl
            have x2 := cell_of H10.out 2 (.int .i64 xc) rfl
            have x3 := cell_of H10.out 3 (.string xv) rfl
            have z0 := cell_of H8.out 0 (.string ⟨#[]⟩) rfl
            have z1 := cell_of H8.out 1 (.int .u64 0) rfl
            have z2 := cell_of H8.out 2 (.int .i64 0) rfl
            have z3 := cell_of H8.out 3 (.string ⟨#[]⟩) rfl
            have f0 := fz_of H8.out 0
            have f1 := fz_of H8.out 1
            have f2 := fz_of H8.out 2
            have f3 := fz_of H8.out 3
            have PUT : Hid (∀ rk rs rc rv, ((((wr.setCell ⟨g8, 0, none⟩ (.string rk)).setCell ⟨g8, 1, none⟩ (.int .u64 rs)).setCell ⟨g8, 2, none⟩ (.int .i64 rc)).setCell ⟨g8, 3, none⟩ (.string rv)).heap[g8]? = some (.cells #[.string rk, .int .u64 rs, .int .i64 rc, .string rv] 56) ∧ Below g8 w ((((wr.setCell ⟨g8, 0, none⟩ (.string rk)).setCell ⟨g8, 1, none⟩ (.int .u64 rs)).setCell ⟨g8, 2, none⟩ (.int .i64 rc)).setCell ⟨g8, 3, none⟩ (.string rv))) := fun rk rs rc rv => by
              have h0 : (wr.setCell ⟨g8, 0, none⟩ (.string rk)).heap[g8]? = some (.cells #[.string rk, .int .u64 0, .int .i64 0, .string ⟨#[]⟩] 56) := (set_of H8.out 0 _).trans rfl
              have h1 : ((wr.setCell ⟨g8, 0, none⟩ (.string rk)).setCell ⟨g8, 1, none⟩ (.int .u64 rs)).heap[g8]? = some (.cells #[.string rk, .int .u64 rs, .int .i64 0, .string ⟨#[]⟩] 56) := (set_of h0 1 _).trans rfl
              have h2 : (((wr.setCell ⟨g8, 0, none⟩ (.string rk)).setCell ⟨g8, 1, none⟩ (.int .u64 rs)).setCell ⟨g8, 2, none⟩ (.int .i64 rc)).heap[g8]? = some (.cells #[.string rk, .int .u64 rs, .int .i64 rc, .string ⟨#[]⟩] 56) := (set_of h1 2 _).trans rfl
              exact ⟨(set_of h2 3 _).trans rfl, (((HB.out.setCell (p := ⟨g8, 0, none⟩) (Nat.le_refl _) _).setCell (p := ⟨g8, 1, none⟩) (Nat.le_refl _) _).setCell (p := ⟨g8, 2, none⟩) (Nat.le_refl _) _).setCell (p := ⟨g8, 3, none⟩) (Nat.le_refl _) _⟩
            clear H8 H10 HB HC HF C1
            cases cb with
            | false =>
              have AN := A2 (by simp)
              replace AN := hid AN
              clear A1 A2
              go_wp2_with fail
              obtain ⟨KZ, BZ⟩ := PUT.out xk xs xc xv
              generalize (((wr.setCell ⟨g8, 0, none⟩ (.string xk)).setCell ⟨g8, 1, none⟩ (.int .u64 xs)).setCell ⟨g8, 2, none⟩ (.int .i64 xc)).setCell ⟨g8, 3, none⟩ (.string xv) = WZ at *
              have q0 := cell_of KZ 0 (.string xk) rfl
              have q1 := cell_of KZ 1 (.int .u64 xs) rfl
              have q2 := cell_of KZ 2 (.int .i64 xc) rfl
              have q3 := cell_of KZ 3 (.string xv) rfl
              refine bodyPost_ret (v := .tuple #[.agg #[.string xk, .int .u64 xs, .int .i64 xc, .string xv], .bool true]) (by simp [results, Try.results48, go_sem, q0, q1, q2, q3]) rfl ⟨_, _, _, _, .inr ⟨rfl, AN.out, ?_⟩⟩
              rw [← hg8.out]
              exact BZ
            | true =>
              by_cases c5 : xs < cs
              · have AN := A1 ⟨rfl, .inr c5⟩
                replace AN := hid AN
                clear A1 A2
                go_wp2_with fail
                obtain ⟨KZ, BZ⟩ := PUT.out k cs 2 ⟨#[]⟩
                generalize (((wr.setCell ⟨g8, 0, none⟩ (.string k)).setCell ⟨g8, 1, none⟩ (.int .u64 cs)).setCell ⟨g8, 2, none⟩ (.int .i64 2)).setCell ⟨g8, 3, none⟩ (.string ⟨#[]⟩) = WZ at *
                have q0 := cell_of KZ 0 (.string k) rfl
                have q1 := cell_of KZ 1 (.int .u64 cs) rfl
                have q2 := cell_of KZ 2 (.int .i64 2) rfl
                have q3 := cell_of KZ 3 (.string ⟨#[]⟩) rfl
                refine bodyPost_ret (v := .tuple #[.agg #[.string k, .int .u64 cs, .int .i64 2, .string ⟨#[]⟩], .bool true]) (by simp [results, Try.results48, go_sem, q0, q1, q2, q3]) rfl ⟨_, _, _, _, .inr ⟨rfl, AN.out, ?_⟩⟩
                rw [← hg8.out]
                exact BZ
              · have AN := A2 (by rintro ⟨_, h | h⟩; cases h; exact c5 h)
                have c5' : cs ≤ xs := by omega
                replace AN := hid AN
                clear A1 A2
                go_wp2_with fail
                obtain ⟨KZ, BZ⟩ := PUT.out xk xs xc xv
                generalize (((wr.setCell ⟨g8, 0, none⟩ (.string xk)).setCell ⟨g8, 1, none⟩ (.int .u64 xs)).setCell ⟨g8, 2, none⟩ (.int .i64 xc)).setCell ⟨g8, 3, none⟩ (.string xv) = WZ at *
                have q0 := cell_of KZ 0 (.string xk) rfl
                have q1 := cell_of KZ 1 (.int .u64 xs) rfl
                have q2 := cell_of KZ 2 (.int .i64 xc) rfl
                have q3 := cell_of KZ 3 (.string xv) rfl
                refine bodyPost_ret (v := .tuple #[.agg #[.string xk, .int .u64 xs, .int .i64 xc, .string xv], .bool true]) (by simp [results, Try.results48, go_sem, q0, q1, q2, q3]) rfl ⟨_, _, _, _, .inr ⟨rfl, AN.out, ?_⟩⟩
                rw [← hg8.out]
                exact BZ
      | false =>
        have F1 : Hid (Fst es k q es.length false ⟨xk, xs, xc, xv⟩) := by rw [hxl.out, show el = i by omega]; exact HF
        replace HF := F1
        clear F1
        go_wp2_with fail
        go_loopw [13, 14, 15] (fun sv cv jv wr => ∃ (j : Nat) (cb : Bool) (cs : Int), j ≤ tl ∧ jv = .int .i64 (j : Int) ∧ cv = .bool cb ∧ sv = .int .u64 cs ∧ Hid (Cvr ts k q j cb cs) ∧ Hid (wr.heap[g8]? = some (.cells #[.string ⟨#[]⟩, .int .u64 0, .int .i64 0, .string ⟨#[]⟩] 56)) ∧ Hid (wr.heap[g10]? = some (.cells #[.string xk, .int .u64 xs, .int .i64 xc, .string xv] 56)) ∧ Hid (Below g8 w wr))
          (fun _ _ jv _ => tl - (intOf jv).toNat)
        case atStart => exact ⟨0, false, 0, Nat.zero_le _, rfl, rfl, rfl, .inl ⟨rfl, rfl, fun j hj => by omega⟩, H8, H10, HB⟩
        case round =>
          obtain ⟨j, cb, cs, hj', rfl, rfl, rfl, HC, H8, H10, HB⟩ := hrel
          by_cases hjt : j < tl
          · have j1 : (j : Int) < (tl : Int) := by omega
            have hA := TT.out wr HB.out
            obtain ⟨ad, rfl⟩ : ∃ ad, ta = some ad := by
              cases ta with
              | none => have := (hA.2.2.1 rfl).1; omega
              | some ad => exact ⟨ad, rfl⟩
            obtain ⟨tb', to, tsp⟩ := ad
            obtain ⟨hsp, hat⟩ := hA.2.2.2.2 tb' to tsp rfl (by omega)
            subst hsp
            have hcp := hA.2.1
            obtain ⟨d0, d1, d2⟩ := hat j hjt
            obtain ⟨y, hy⟩ : ∃ y, y = ts.getD j zt := ⟨_, rfl⟩
            rw [← hy] at d0 d1 d2
            obtain ⟨yb, ye, ys⟩ := y
            dsimp only at d0 d1 d2
            have hht : hit k q ⟨yb, ye, ys⟩ = (!(Op.bytesLess k.toList yb.toList) && Op.bytesLess k.toList ye.toList && decide (ys ≤ q)) := rfl
            have NO : Hid (hit k q ⟨yb, ye, ys⟩ = false → Cvr ts k q (j + 1) cb cs) := fun h => HC.out.no (by rw [← hy]; exact h)
            have LE : Hid (cb = true → ys ≤ cs → Cvr ts k q (j + 1) cb cs) := fun h h' => by subst h; exact HC.out.less (by rw [← hy]; exact h')
            have YE : Hid (hit k q ⟨yb, ye, ys⟩ = true → (cb = false ∨ cs < ys) → Cvr ts k q (j + 1) true ys) := fun h h' => by have := HC.out.yes (by rw [← hy]; exact h) (by rw [← hy]; exact h'); rw [← hy] at this; exact this
            have bb : Below wr.heap.size wr (wr.alloc (.cells #[.string yb, .string ye, .int .u64 ys] 111)) := box_below _ _
            have G8 := hid ((bb.block g8 (blk_lt H8.out)).trans H8.out)
            have G10 := hid ((bb.block g10 (blk_lt H10.out)).trans H10.out)
            have GB := hid (HB.out.trans (bb.mono (by have := blk_lt H8.out; omega)))
            replace hA := hid hA
            replace hy := hid hy
            clear hat bb H8 H10 HB HC
            cases c1 : Op.bytesLess k.toList yb.toList with
            | true =>
              have F2 := hid (NO.out (by rw [hht, c1]; rfl))
              clear NO LE YE
              go_wp2_with fail
              refine ⟨⟨j + 1, cb, cs, by omega, by first | rfl | go_num, rfl, rfl, F2, G8, G10, GB⟩, ?_⟩
              simp only [intOf]; omega
            | false =>
              cases c2 : Op.bytesLess k.toList ye.toList with
              | false =>
                have F2 := hid (NO.out (by rw [hht, c1, c2]; rfl))
                clear NO LE YE
                go_wp2_with fail
                refine ⟨⟨j + 1, cb, cs, by omega, by first | rfl | go_num, rfl, rfl, F2, G8, G10, GB⟩, ?_⟩
                simp only [intOf]; omega
              | true =>
                by_cases c3 : ys ≤ q
                · have hh : hit k q ⟨yb, ye, ys⟩ = true := by rw [hht, c1, c2]; simp [c3]
                  cases cb with
                  | false =>
                    have F2 := hid (YE.out hh (.inl rfl))
                    clear NO LE YE
                    go_wp2_with fail
                    refine ⟨⟨j + 1, true, ys, by omega, by first | rfl | go_num, rfl, rfl, F2, G8, G10, GB⟩, ?_⟩
                    simp only [intOf]; omega
                  | true =>
                    by_cases c4 : cs < ys
                    · have F2 := hid (YE.out hh (.inr c4))
                      clear NO LE YE
                      go_wp2_with fail
                      refine ⟨⟨j + 1, true, ys, by omega, by first | rfl | go_num, rfl, rfl, F2, G8, G10, GB⟩, ?_⟩
                      simp only [intOf]; omega
                    · have F2 := hid (LE.out rfl (by omega))
                      have c4' : ys ≤ cs := by omega
                      clear NO LE YE
                      go_wp2_with fail
                      refine ⟨⟨j + 1, true, cs, by omega, by first | rfl | go_num, rfl, rfl, F2, G8, G10, GB⟩, ?_⟩
                      simp only [intOf]; omega
                · have F2 := hid (NO.out (by rw [hht, c1, c2]; simp [c3]))
                  have c3' : q < ys := by omega
                  clear NO LE YE
                  go_wp2_with fail
                  refine ⟨⟨j + 1, cb, cs, by omega, by first | rfl | go_num, rfl, rfl, F2, G8, G10, GB⟩, ?_⟩
                  simp only [intOf]; omega
          · have j1 : ¬ (j : Int) < (tl : Int) := by omega
            have C1 : Hid (Cvr ts k q ts.length cb cs) := by rw [htl'.out, show tl = j by omega]; exact HC
            obtain ⟨A1, A2⟩ := ans_of hs.out ht1.out HF.out C1.out
            have x1 := cell_of H10.out 1 (.int .u64 xs) rfl
            have x0 := cell_of H10.out 0 (.string xk) rfl
            have x2 := cell_of H10.out 2 (.int .i64 xc) rfl
            have x3 := cell_of H10.out 3 (.string xv) rfl
            have z0 := cell_of H8.out 0 (.string ⟨#[]⟩) rfl
            have z1 := cell_of H8.out 1 (.int .u64 0) rfl
            have z2 := cell_of H8.out 2 (.int .i64 0) rfl
            have z3 := cell_of H8.out 3 (.string ⟨#[]⟩) rfl
            have f0 := fz_of H8.out 0
            have f1 := fz_of H8.out 1
            have f2 := fz_of H8.out 2
            have f3 := fz_of H8.out 3
            have PUT : Hid (∀ rk rs rc rv, ((((wr.setCell ⟨g8, 0, none⟩ (.string rk)).setCell ⟨g8, 1, none⟩ (.int .u64 rs)).setCell ⟨g8, 2, none⟩ (.int .i64 rc)).setCell ⟨g8, 3, none⟩ (.string rv)).heap[g8]? = some (.cells #[.string rk, .int .u64 rs, .int .i64 rc, .string rv] 56) ∧ Below g8 w ((((wr.setCell ⟨g8, 0, none⟩ (.string rk)).setCell ⟨g8, 1, none⟩ (.int .u64 rs)).setCell ⟨g8, 2, none⟩ (.int .i64 rc)).setCell ⟨g8, 3, none⟩ (.string rv))) := fun rk rs rc rv => by
              have h0 : (wr.setCell ⟨g8, 0, none⟩ (.string rk)).heap[g8]? = some (.cells #[.string rk, .int .u64 0, .int .i64 0, .string ⟨#[]⟩] 56) := (set_of H8.out 0 _).trans rfl
              have h1 : ((wr.setCell ⟨g8, 0, none⟩ (.string rk)).setCell ⟨g8, 1, none⟩ (.int .u64 rs)).heap[g8]? = some (.cells #[.string rk, .int .u64 rs, .int .i64 0, .string ⟨#[]⟩] 56) := (set_of h0 1 _).trans rfl
              have h2 : (((wr.setCell ⟨g8, 0, none⟩ (.string rk)).setCell ⟨g8, 1, none⟩ (.int .u64 rs)).setCell ⟨g8, 2, none⟩ (.int .i64 rc)).heap[g8]? = some (.cells #[.string rk, .int .u64 rs, .int .i64 rc, .string ⟨#[]⟩] 56) := (set_of h1 2 _).trans rfl
              exact ⟨(set_of h2 3 _).trans rfl, (((HB.out.setCell (p := ⟨g8, 0, none⟩) (Nat.le_refl _) _).setCell (p := ⟨g8, 1, none⟩) (Nat.le_refl _) _).setCell (p := ⟨g8, 2, none⟩) (Nat.le_refl _) _).setCell (p := ⟨g8, 3, none⟩) (Nat.le_refl _) _⟩
            clear H8 H10 HB HC HF C1
            cases cb with
            | false =>
              have AN := A2 (by simp)
              replace AN := hid AN
              clear A1 A2
              go_wp2_with fail
              obtain ⟨KZ, BZ⟩ := PUT.out xk xs xc xv
              generalize (((wr.setCell ⟨g8, 0, none⟩ (.string xk)).setCell ⟨g8, 1, none⟩ (.int .u64 xs)).setCell ⟨g8, 2, none⟩ (.int .i64 xc)).setCell ⟨g8, 3, none⟩ (.string xv) = WZ at *
              have q0 := cell_of KZ 0 (.string xk) rfl
              have q1 := cell_of KZ 1 (.int .u64 xs) rfl
              have q2 := cell_of KZ 2 (.int .i64 xc) rfl
              have q3 := cell_of KZ 3 (.string xv) rfl
              refine bodyPost_ret (v := .tuple #[.agg #[.string xk, .int .u64 xs, .int .i64 xc, .string xv], .bool false]) (by simp [results, Try.results48, go_sem, q0, q1, q2, q3]) rfl ⟨_, _, _, _, .inl ⟨rfl, AN.out, ?_⟩⟩
              rw [← hg8.out]
              exact BZ
            | true =>
              have AN := A1 ⟨rfl, .inl rfl⟩
              replace AN := hid AN
              clear A1 A2
              go_wp2_with fail
              obtain ⟨KZ, BZ⟩ := PUT.out k cs 2 ⟨#[]⟩
              generalize (((wr.setCell ⟨g8, 0, none⟩ (.string k)).setCell ⟨g8, 1, none⟩ (.int .u64 cs)).setCell ⟨g8, 2, none⟩ (.int .i64 2)).setCell ⟨g8, 3, none⟩ (.string ⟨#[]⟩) = WZ at *
              have q0 := cell_of KZ 0 (.string k) rfl
              have q1 := cell_of KZ 1 (.int .u64 cs) rfl
              have q2 := cell_of KZ 2 (.int .i64 2) rfl
              have q3 := cell_of KZ 3 (.string ⟨#[]⟩) rfl
              refine bodyPost_ret (v := .tuple #[.agg #[.string k, .int .u64 cs, .int .i64 2, .string ⟨#[]⟩], .bool true]) (by simp [results, Try.results48, go_sem, q0, q1, q2, q3]) rfl ⟨_, _, _, _, .inr ⟨rfl, AN.out, ?_⟩⟩
              rw [← hg8.out]
              exact BZ
end Go.Proofs.Ytefihoohdaegeaa.Dh
