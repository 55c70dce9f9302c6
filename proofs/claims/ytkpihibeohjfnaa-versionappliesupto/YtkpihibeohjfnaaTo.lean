/- takeOut by its contract. -/
import Derived.Test.YtkpihibeohjfnaaOu
import Derived.Deep.RegionLaw
namespace Go.Proofs.Ytkpihibeohjfnaa.To
open Go.ChangeShapes Go.WideShapes Go.ChangeAt Go.RowKit
open Go.Proofs.Ytkpihibeohjfnaa.Gr
open Go.Proofs.Ytkpihibeohjfnaa.Ev
open Go.Proofs.Ytkpihibeohjfnaa.Oe
open Go.Proofs.Ytkpihibeohjfnaa.Lv
open Go.Proofs.Ytkpihibeohjfnaa.Vp
open Go.Proofs.Ytkpihibeohjfnaa.Vr
open Go.Proofs.Ytkpihibeohjfnaa.Vt
open Go.Proofs.Ytkpihibeohjfnaa.Vu (cell_later)
open Go.Proofs.Ytkpihibeohjfnaa.Km
open Go.Proofs.Ytkpihibeohjfnaa.Ou
open Go.Proofs.Ytkpihibeohjfnaa.Aq (own_ty)
set_option linter.unusedVariables false
set_option linter.unusedSimpArgs false

theorem step_append_run {P : Program} {ops : Array Oper} {o : Oper} {a : Act} {w w' : World} {K : Act → World → Prop} {Q : Exit → Act → World → Prop} {E : Prop}
    (hg : o.guard = none) (s x : Operand) (t tx : TypeId) (hop : o.op = Op.call { callee := Callee.builtin Builtin.append, args := #[s, x], argTypes := #[t, tx] })
    (u v v' : Value) (hs : a.eval s = u) (hx : a.eval x = v) (hrun : (Builtin.append_ #[t, tx] o.type #[u, v]).run P w = .ok v' w') (hK : K (a.put o.dst v') w') :
    if Region.wanted o (yielded ops a.tmps) = true then Oper.wp P o a w K Q else E := by
  have hw : Region.wanted o (yielded ops a.tmps) = true := by simp [Region.wanted, hg]
  rw [if_pos hw]
  unfold Oper.wp
  simp [execOp, hop, resolve, invoke, builtin, hs, hx, hrun, Result.andThen]
  exact hK
theorem mk_run (n : Int) (w : World) : Sem.run Try.prog (Instr.makeMap 86 (some (.int .i64 n))) w = .ok (.map (some w.heap.size)) (w.alloc (.map #[] 0)) := by
  kernel_rfl
/-- The files of level k that stay where the places ks go. -/
def kp (ks : List Pl) (k : Nat) (fs : List Fi) : List Fi := fs.filter fun f => !decide ((⟨(k : Int), f.n⟩ : Pl) ∈ ks)
def tg (ks : List Pl) (L : List (List Fi)) (i j k : Nat) : List Fi := if k < i then kp ks k (L.getD k []) else if k = i then kp ks k ((L.getD k []).take j) else []
theorem tg_next (ks : List Pl) (L : List (List Fi)) (i k : Nat) : tg ks L i (L.getD i []).length k = tg ks L (i + 1) 0 k := by
  unfold tg
  by_cases h : k < i
  · rw [if_pos h, if_pos (by omega)]
  · by_cases e : k = i
    · subst e
      rw [if_neg h, if_pos rfl, if_pos (by omega), List.take_length]
    · rw [if_neg h, if_neg e, if_neg (by omega)]
      by_cases e' : k = i + 1
      · rw [if_pos e']; simp [kp]
      · rw [if_neg e']
theorem kp_snoc (ks : List Pl) (k : Nat) {fs : List Fi} {j : Nat} (h : j < fs.length) : kp ks k (fs.take (j + 1)) = kp ks k (fs.take j) ++ if decide ((⟨(k : Int), (fs.getD j zf).n⟩ : Pl) ∈ ks) = true then [] else [fs.getD j zf] := by
  unfold kp
  rw [El.take_snoc (E := eFi) h, List.filter_append]
  congr 1
  show List.filter _ [fs.getD j zf] = _
  cases hb : decide ((⟨(k : Int), (fs.getD j zf).n⟩ : Pl) ∈ ks)
  · rw [List.filter_cons_of_pos (by rw [hb]; rfl)]; simp
  · rw [List.filter_cons_of_neg (by rw [hb]; simp)]; simp
/-- The levels without the files at places. -/
def tk (ks : List Pl) (L : List (List Fi)) : List (List Fi) := (List.range L.length).map fun k => kp ks k (L.getD k [])
theorem kp_congr {ks ps : List Pl} (h : ∀ p, p ∈ ks ↔ p ∈ ps) (k : Nat) (fs : List Fi) : kp ks k fs = kp ps k fs := by
  unfold kp
  congr 1
  funext f
  rw [decide_eq_decide.2 (h _)]
theorem tk_of {ks ps : List Pl} (h : ∀ p, p ∈ ks ↔ p ∈ ps) {L : List (List Fi)} {xs : List Lf} (hl : xs.length = L.length) (hx : ∀ k, k < L.length → (xs.getD k zl).fs = tg ks L L.length 0 k) : xs.map Lf.fs = tk ps L := by
  apply List.ext_getElem
  · rw [List.length_map, tk, List.length_map, List.length_range, hl]
  · intro k h1 h2
    rw [List.length_map] at h1
    have := hx k (by omega)
    rw [List.getD_eq_getElem?_getD, List.getElem?_eq_getElem h1] at this
    rw [List.getElem_map]
    refine Eq.trans this ?_
    have e : (tk ps L)[k]'h2 = kp ps k (L.getD k []) := by simp [tk]
    rw [e]
    unfold tg
    rw [if_pos (by omega), kp_congr h]
theorem wsum_filter {α : Type} (f : α → Nat) (p : α → Bool) : ∀ l : List α, wsum f (l.filter p) ≤ wsum f l
  | [] => Nat.le_refl _
  | x :: l => by
    have := wsum_filter f p l
    rw [List.filter_cons]
    split
    · show f x + wsum f (l.filter p) ≤ f x + wsum f l; omega
    · show wsum f (l.filter p) ≤ f x + wsum f l; omega
theorem wL_le : ∀ (M L : List (List Fi)), M.length = L.length → (∀ k, k < L.length → wsum wF (M.getD k []) ≤ wsum wF (L.getD k [])) → wL M ≤ wL L
  | [], [], _, _ => Nat.le_refl _
  | [], _ :: _, h, _ => by cases h
  | _ :: _, [], h, _ => by cases h
  | m :: M, l :: L, h, hk => by
    have h0 := hk 0 (by simp)
    have h1 := wL_le M L (by simpa using h) (fun k hk' => hk (k + 1) (by simpa using hk'))
    show wsum wF m + 1 + wL M ≤ wsum wF l + 1 + wL L
    have h0' : wsum wF m ≤ wsum wF l := h0
    omega
theorem tk_w (ks : List Pl) (L : List (List Fi)) : wL (tk ks L) ≤ wL L := by
  refine wL_le _ _ (by simp [tk]) (fun k hk => ?_)
  have : (tk ks L).getD k [] = kp ks k (L.getD k []) := by
    unfold tk
    rw [List.getD_eq_getElem?_getD, List.getElem?_map, List.getElem?_range hk]; rfl
  rw [this]
  exact wsum_filter _ _ _
theorem Mp.stay {W W' : World} {b : Nat} {ks : List Pl} (h : kP.Mp W b ks) (hs : ∀ j, j < W.heap.size → (∀ c t f, W.heap[j]? ≠ some (.cells c t f)) → W'.heap[j]? = W.heap[j]?) : kP.Mp W' b ks := by
  refine h.blk (hs b h.lt (fun c t f e => ?_))
  obtain ⟨es, cl, h1, _⟩ := h
  rw [h1] at e
  cases e
set_option maxRecDepth 20000 in
set_option maxHeartbeats 4000000 in
theorem takeout_any (a : Option Addr) (len cap : Nat) (L : List (List Fi)) (pa : Option Addr) (pn pc : Nat) (ps : List Pl) (w : World) (H : Lvs w a len cap L) (hw : wL L ≤ 1048576) (HP : ePl.Sl w pa pn pc ps) (hp8 : pn ≤ 1048576) :
    Calls Try.prog 42 #[.slice a len cap, .slice pa pn pc] w fun e w' => ∃ g xs, e = .returned (.tuple #[.slice (some ⟨g, 0, none⟩) len len, .bool ((((nums L).length : Int) - ((nums (tk ps L)).length : Int)) == (pn : Int))]) ∧ Ou w w' g xs ∧ xs.map Lf.fs = tk ps L := by
  obtain ⟨i0, hi, hz0, hz1, hz2⟩ := info_parts (eLv w).info
  have hlen := hid H.len_eq
  have hcap := H.cap_le
  have hll := wL_len L
  have hn8 : len ≤ 1048576 := by have := hlen.out; omega
  have HL : Hid (∀ W, Below w.heap.size w W → Lvs W a len cap L) := fun W b => H.later b
  have HPl : Hid (∀ W, Below w.heap.size w W → ePl.Sl W pa pn pc ps) := fun W b => HP.later b
  have hpl := hid HP.n
  have hpc := HP.c
  replace hw := hid hw
  obtain ⟨b, hb⟩ : ∃ b, b = w.heap.size := ⟨_, rfl⟩
  obtain ⟨W0, hW0⟩ : ∃ W, W = w.alloc (.map #[] 0) := ⟨_, rfl⟩
  have M0 : kP.Mp W0 b [] := by rw [hW0, hb]; exact Ks.Mp.made kP w
  have b0 : Below w.heap.size w W0 := by rw [hW0]; exact box_below _ _
  have mk := mk_run (pn : Int) w
  rw [← hW0, ← hb] at mk
  replace M0 := hid M0
  replace b0 := hid b0
  replace hb := hid hb
  clear H HP hll hW0
  go_enter Try.func42, Try.ntmps42
  go_wp2_with fail
  clear mk
  go_loopw [21] (fun jj wr => ∃ (j : Nat) (ks : List Pl), jj = .int .i64 j ∧ j ≤ pn ∧ Hid (∀ p, p ∈ ks ↔ p ∈ ps.take j) ∧ Hid (kP.Mp wr b ks) ∧ Hid (Below w.heap.size w wr)) (fun jj _ => pn - (intOf jj).toNat)
  case atStart => exact ⟨0, [], rfl, by omega, by simp [Hid], M0, b0⟩
  case round =>
    clear M0 b0
    obtain ⟨j, ks, rfl, hj, hks, M, bw⟩ := hrel
    by_cases hjl : j < pn
    · obtain ⟨pb, po, rfl, hat⟩ := get1 (HPl.out wr bw.out) j hjl
      obtain ⟨e1, e2⟩ := pl_at (hat j hjl)
      have htk : Hid (ps.take (j + 1) = ps.take j ++ [ps.getD j zp]) := El.take_snoc (E := ePl) (by rw [hpl.out]; exact hjl)
      rw [show ePl.z = zp from rfl] at e1 e2
      simp only [show ePl.k = 2 from rfl] at e1 e2
      clear hat
      generalize ps.getD j zp = y at *
      obtain ⟨yl, yn⟩ := y
      dsimp only at e1 e2
      have b1 := box_below wr (.cells #[.int .i64 yl, .int .i64 yn] 41)
      obtain ⟨W', r', M', gr'⟩ := (M.out.later b1).put ⟨yl, yn⟩
      have bw' : Hid (Below w.heap.size w W') := below_grown (Below.up bw.out b1) (Below.up bw.out b1).size gr' (fun k hk => by have := hb.out; cases hk; omega)
      simp only [show kP.mt = 86 from rfl, show kP.kv = kvP from rfl, kvP] at r'
      have hks' : Hid (∀ p, p ∈ ins ks ⟨yl, yn⟩ ↔ p ∈ ps.take (j + 1)) := by
        intro p
        rw [mem_ins, htk.out, hks.out p, List.mem_append, List.mem_singleton]
      replace M' := hid M'
      have jk0 : (j : Int) < (pn : Int) := by omega
      have jo0 : (0 : Int) ≤ (j : Int) := by omega
      clear htk b1 gr'
      go_wp2_with fail
      go_roundw
      case rel => exact ⟨j + 1, _, by go_num, by omega, hks', M', bw'⟩
      case measure => simp [intOf]; omega
    · have hje : j = pn := by omega
      subst hje
      have hks' : Hid (∀ p, p ∈ ks ↔ p ∈ ps) := by
        intro p
        have := hks.out p
        rwa [← hpl.out, List.take_length] at this
      clear hks HPl
      go_wp2_with (first
        | (at_make; refine wpList_make_full _ rfl _ _ 23 rfl w.heap.size 39 i0 (.slice none 0 0) 1 Try.underlying23 hi hz0 hz1 _ _ _ _ len rfl rfl rfl rfl (by rw [hz2]; show 24 * len ≤ _; omega) (by unfold maxLen; omega) bw.out.size ?_; intro w1 hrow hg1))
      obtain ⟨g, hg⟩ : ∃ g, g = wr.heap.size := ⟨_, rfl⟩
      have bw1 : Below w.heap.size w w1 := below_grown bw.out bw.out.size hg1 (fun k hk => by cases hk)
      have O1 : Ou w w1 g (List.replicate len zl) := by
        refine Ou.made bw1 ?_
        rw [hg]
        have := hrow
        rw [Nat.mul_one] at this
        rw [show (madeCells (Value.slice none 0 0).cells len).toList = List.replicate len (.slice none 0 0) from toList_madeCells_one _ _] at this
        exact this
      have M1 : kP.Mp w1 b ks := M.out.blk (hg1.block b M.out.lt (fun e => by cases e))
      have hx1 : ∀ k, k < len → ((List.replicate len zl).getD k zl).fs = tg ks L 0 0 k := by
        intro k hk
        have : (List.replicate len zl).getD k zl = zl := by
          rw [List.getD_eq_getElem?_getD, List.getElem?_replicate]; split <;> rfl
        rw [this]
        unfold tg
        rw [if_neg (by omega)]
        split
        · simp [kp]; rfl
        · rfl
      rw [← hg]
      replace O1 := hid O1
      replace M1 := hid M1
      replace hx1 := hid hx1
      replace hg := hid hg
      have hl1 : Hid ((List.replicate len zl).length = len) := by show _ = _; simp
      generalize List.replicate len zl = xs1 at *
      clear hrow hg1 bw1 M bw
      go_wp2_with fail
      go_loopw [34] (fun ii wr => ∃ (i : Nat) (xs : List Lf), ii = .int .i64 i ∧ i ≤ len ∧ Hid (xs.length = len) ∧ Hid (∀ k, k < len → (xs.getD k zl).fs = tg ks L i 0 k) ∧ Hid (Ou w wr g xs) ∧ Hid (kP.Mp wr b ks)) (fun ii _ => len - (intOf ii).toNat)
      case atStart => exact ⟨0, xs1, rfl, by omega, hl1, hx1, O1, M1⟩
      case round =>
        clear O1 M1 hx1 hl1
        obtain ⟨i, xs, rfl, hi', hxl, hx, O, M⟩ := hrel
        by_cases hlt : i < len
        · obtain ⟨lb, lof, la, ln, lc, rfl, cl0, FS, hln⟩ := (HL.out w (Below.refl _ _)).at i hlt
          have cl := cell_later cl0 O.out.lo
          have ik0 : (i : Int) < (len : Int) := by omega
          have ok0 : (0 : Int) ≤ (i : Int) := by omega
          have hsum := wL_at (L := L) (i := i) (by rw [hlen.out]; exact hlt)
          have hln8 : ln ≤ 1048576 := by have := hw.out; omega
          have hnx := hid (fun k => tg_next ks L i k)
          rw [← hln] at hnx
          have htgi : Hid (∀ j, tg ks L i j i = kp ks i ((L.getD i []).take j)) := by
            intro j; unfold tg; rw [if_neg (by omega), if_pos rfl]
          have htgo : Hid (∀ j j' k, k ≠ i → tg ks L i j k = tg ks L i j' k) := by
            intro j j' k hk; unfold tg; rw [if_neg hk, if_neg hk]
          obtain ⟨fs, hfs⟩ : ∃ fs, fs = L.getD i [] := ⟨_, rfl⟩
          rw [← hfs] at FS hln htgi
          have hlc := FS.c
          have HF : Hid (∀ W, Below w.heap.size w W → eFi.Sl W la ln lc fs) := fun W b => FS.later b
          replace hfs := hid hfs
          replace hln := hid hln
          clear FS hsum cl0
          go_wp2_with fail
          go_loopw [41] (fun jj wr => ∃ (j : Nat) (xs : List Lf), jj = .int .i64 j ∧ j ≤ ln ∧ Hid (xs.length = len) ∧ Hid (∀ k, k < len → (xs.getD k zl).fs = tg ks L i j k) ∧ Hid (Ou w wr g xs) ∧ Hid (kP.Mp wr b ks)) (fun jj _ => ln - (intOf jj).toNat)
          case atStart => exact ⟨0, xs, rfl, by omega, hxl, hx, O, M⟩
          case round =>
            clear O M hx hxl cl
            obtain ⟨j, xs, rfl, hj, hxl, hx, O, M⟩ := hrel
            by_cases hjl : j < ln
            · obtain ⟨fb, fo, rfl, hat⟩ := get1 (HF.out wr O.out.lo) j hjl
              have hA := fi_at (hat j hjl)
              rw [show eFi.z = zf from rfl] at hA
              have hjf : j < fs.length := by rw [← hln.out]; exact hjl
              have hok : (fs.getD j zf).ok := (HF.out wr O.out.lo).ok _ (El.get_mem (E := eFi) hjf)
              have hsn := hid (kp_snoc ks i hjf)
              have hkl : (kp ks i (fs.take j)).length ≤ 1048576 := Nat.le_trans (List.length_filter_le _ _) (by rw [List.length_take]; omega)
              have hxi : (xs.getD i zl).fs = kp ks i (fs.take j) := by rw [hx.out i hlt, htgi.out]
              clear hat hjf
              generalize fs.getD j zf = f at *
              obtain ⟨n, z, s, t, lo, hi2⟩ := f
              obtain ⟨e1, e2, e3, e4, e5, e6⟩ := hA
              simp only [show eFi.k = 6 from rfl] at e1 e2 e3 e4 e5 e6
              have jk0 : (j : Int) < (ln : Int) := by omega
              have jo0 : (0 : Int) ≤ (j : Int) := by omega
              have bx := box_below wr (.cells #[.int .i64 n, .int .i64 z, .string s, .string t, .int .u64 lo, .int .u64 hi2] 43)
              obtain ⟨gx, hgx⟩ : ∃ g, g = wr.heap.size := ⟨_, rfl⟩
              obtain ⟨W1, hW1⟩ : ∃ W, W = wr.alloc (.cells #[.int .i64 n, .int .i64 z, .string s, .string t, .int .u64 lo, .int .u64 hi2] 43) := ⟨_, rfl⟩
              rw [← hW1] at bx
              have kx : W1.heap[gx]? = some (.cells #[.int .i64 n, .int .i64 z, .string s, .string t, .int .u64 lo, .int .u64 hi2] 43) := by rw [hW1, hgx]; exact new_at _ _
              have M1 := M.out.later bx
              have look := M1.look ⟨(i : Int), n⟩
              simp only [show kP.mt = 86 from rfl, show kP.kv = kvP from rfl, kvP] at look
              have by_ := box_below W1 (.cells #[] 87)
              obtain ⟨W2, hW2⟩ : ∃ W, W = W1.alloc (.cells #[] 87) := ⟨_, rfl⟩
              rw [← hW2] at by_
              have O2 := hid ((O.out.later bx).later by_)
              have M2 := hid (M1.later by_)
              have kx2 := (by_.block gx (blk_lt kx)).trans kx
              have y0 := cell_of kx 0 _ rfl
              by_cases hin : (⟨(i : Int), n⟩ : Pl) ∈ ks
              · rw [decide_eq_true hin] at look hsn
                rw [if_pos rfl, List.append_nil] at hsn
                have hx' : Hid (∀ k, k < len → (xs.getD k zl).fs = tg ks L i (j + 1) k) := by
                  intro k hk
                  by_cases e : k = i
                  · subst e; rw [hxi, htgi.out, hsn.out]
                  · rw [hx.out k hk, htgo.out j (j + 1) k e]
                subst hW1
                replace hW2 := hid hW2
                replace hgx := hid hgx
                clear kx kx2 bx by_ M1 hin hxi hkl hok
                clear y0
                go_wp2_with fail
                rw [← hW2.out]
                go_roundw
                case rel => exact ⟨j + 1, xs, by go_num, by omega, hxl, hx', O2, M2⟩
                case measure => simp [intOf]; omega
              · rw [decide_eq_false hin] at look hsn
                rw [if_neg (by simp)] at hsn
                have hil : i < xs.length := by rw [hxl.out]; exact hlt
                obtain ⟨a', n', c', W3, r3, hb3, hst3, O3⟩ := ((O2.out.later (drew_below W2))).put hil ⟨n, z, s, t, lo, hi2⟩ hok #[.int .i64 n, .int .i64 z, .string s, .string t, .int .u64 lo, .int .u64 hi2] rfl (by rw [hxi]; omega)
                obtain ⟨xa, xn, xc, hhd⟩ : ∃ xa xn xc, hd (xs.getD i zl) = .slice xa xn xc := ⟨_, _, _, rfl⟩
                have g0 := (O2.out.later (drew_below W2)).cell hil
                have g1 : W2.cell? ⟨g, i, none⟩ = some (.slice xa xn xc) := by rw [← hhd]; exact O2.out.cell hil
                have g2 : W3.cell? ⟨g, i, none⟩ = some (.slice xa xn xc) := by rw [← hhd]; exact cell_of hb3 i _ (map_get hil)
                have g3 : W3.frozen? ⟨g, i, none⟩ = false := fz_of hb3 i
                have g4 : (W2.alloc (.cells #[.int .i64 n, .int .i64 z, .string s, .string t, .int .u64 lo, .int .u64 hi2] 43)).cell? ⟨g, i, none⟩ = some (.slice xa xn xc) := cell_later g1 (box_below _ _)
                rw [hhd] at r3
                change (Builtin.append_ #[39, 39] 39 #[.slice xa xn xc, .slice (some ⟨W2.heap.size, 0, none⟩) 1 1]).run Try.prog (W2.alloc (.cells #[.int .i64 n, .int .i64 z, .string s, .string t, .int .u64 lo, .int .u64 hi2] 43)).drew = _ at r3
                have hx' : Hid (∀ k, k < len → ((xs.set i ⟨a', n', c', (xs.getD i zl).fs ++ [⟨n, z, s, t, lo, hi2⟩]⟩).getD k zl).fs = tg ks L i (j + 1) k) := by
                  intro k hk
                  by_cases e : k = i
                  · subst e; rw [Go.Proofs.Ytkpihibeohjfnaa.Ou.getD_set_eq hil, htgi.out, hsn.out, hxi]
                  · rw [Go.Proofs.Ytkpihibeohjfnaa.Ou.getD_set_ne (fun h => e h.symm), hx.out k hk, htgo.out j (j + 1) k e]
                have hxl' : Hid ((xs.set i ⟨a', n', c', (xs.getD i zl).fs ++ [⟨n, z, s, t, lo, hi2⟩]⟩).length = len) := by show _ = _; rw [List.length_set]; exact hxl.out
                have M3 := hid (Mp.stay (M2.out.later (drew_below W2)) hst3)
                have y1 := cell_of kx2 0 _ rfl
                have y2 := cell_of kx2 1 _ rfl
                have y3 := cell_of kx2 2 _ rfl
                have y4 := cell_of kx2 3 _ rfl
                have y5 := cell_of kx2 4 _ rfl
                have y6 := cell_of kx2 5 _ rfl
                subst hW1
                replace hW2 := hid hW2
                replace hgx := hid hgx
                replace r3 := hid r3
                replace O3 := hid O3
                replace hhd := hid hhd
                clear kx kx2 bx by_ M1 hin hxi hkl hok g0 hb3 hst3 M2 O2 hsn
                clear y0
                go_wp2_with fail
                rw [← hW2.out, ← hgx.out]
                clear look
                go_region_law (refine step_append_run rfl (.tmp 61) (.tmp 63) 39 39 rfl (.slice xa xn xc) (.slice (some ⟨W2.heap.size, 0, none⟩) 1 1) (.slice a' n' c') (by simp [Act.eval, Act.put]) (by simp [Act.eval, Act.put]) r3.out ?_)
                all_goals
                  go_wp2_with fail
                  go_roundw
                  case rel => exact ⟨j + 1, _, by go_num, by omega, hxl', hx', O3, M3⟩
                  case measure => simp [intOf]; omega
            · have hje : j = ln := by omega
              subst hje
              have hx' : Hid (∀ k, k < len → (xs.getD k zl).fs = tg ks L (i + 1) 0 k) := fun k hk => by rw [hx.out k hk, hnx.out]
              go_wp2_with fail
              go_roundw
              case rel => exact ⟨i + 1, xs, by go_num, by omega, hxl, hx', O, M⟩
              case measure => simp [intOf]; omega
        · have hie : i = len := by omega
          subst hie
          have htk : xs.map Lf.fs = tk ps L := tk_of hks'.out (by rw [hxl.out, hlen.out]) (by rw [hlen.out]; exact hx.out)
          have HO := O.out.lvs
          rw [htk, hxl.out] at HO
          have hwt := Nat.le_trans (tk_w ps L) hw.out
          have n1 := Nat.le_trans (nums_len L) hw.out
          have n2 := Nat.le_trans (nums_len (tk ps L)) hwt
          have c1 := hid (count_any a i cap L wr (HL.out wr O.out.lo) hw.out)
          have c2 := hid (count_any (some ⟨g, 0, none⟩) i i (tk ps L) wr HO hwt)
          replace htk := hid htk
          generalize hN1 : (nums L).length = N1 at *
          generalize hN2 : (nums (tk ps L)).length = N2 at *
          replace hN1 := hid hN1
          replace hN2 := hid hN2
          clear HO hwt hx M
          go_wp2_with (first
            | (go_at_call 47; have hc := c1.out; clear c1; refine hc.mono ?_; clear hc; rintro e w8 ⟨rfl, hw8⟩; subst hw8)
            | (go_at_call 47; refine c2.out.mono ?_; rintro e w9 ⟨rfl, hw9⟩; subst hw9))
          go_ret2
          exact ⟨g, xs, by rw [hN1.out, hN2.out]; rfl, O.out, htk.out⟩
end Go.Proofs.Ytkpihibeohjfnaa.To
