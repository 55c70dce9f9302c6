/- The document's Apply by its contract. -/
import Derived.Test.YtkpihibeohjfnaaRp
import Derived.Test.YtkpihibeohjfnaaPu
import Derived.Test.YtkpihibeohjfnaaDv
import Derived.Test.YtkpihibeohjfnaaAy
import Derived.BigQuiet
namespace Go.Proofs.Ytkpihibeohjfnaa.Rv
open Go.ChangeShapes Go.WideShapes Go.ChangeAt Go.RowKit
open Go.Proofs.Ytkpihibeohjfnaa.Gr
open Go.Proofs.Ytkpihibeohjfnaa.Ev
open Go.Proofs.Ytkpihibeohjfnaa.Oe (wsum)
open Go.Proofs.Ytkpihibeohjfnaa.Lv
open Go.Proofs.Ytkpihibeohjfnaa.Vp
open Go.Proofs.Ytkpihibeohjfnaa.Vq
open Go.Proofs.Ytkpihibeohjfnaa.Vr
open Go.Proofs.Ytkpihibeohjfnaa.Vt
open Go.Proofs.Ytkpihibeohjfnaa.Vu (cell_later)
open Go.Proofs.Ytkpihibeohjfnaa.Bp (vld_parts)
open Go.Proofs.Ytkpihibeohjfnaa.Ou
open Go.Proofs.Ytkpihibeohjfnaa.To (kp tk)
open Go.Proofs.Ytkpihibeohjfnaa.Pi (cm cm_snoc cm_len)
open Go.Proofs.Ytkpihibeohjfnaa.Dv (rvalid_any)
open Go.Proofs.Ytkpihibeohjfnaa.Sq
open Go.Proofs.Ytkpihibeohjfnaa.Sr
open Go.Proofs.Ytkpihibeohjfnaa.Ay (ApP)
open Go.Proofs.Ytkpihibeohjfnaa.Pq
open Go.Proofs.Ytkpihibeohjfnaa.Pu (rput_any)
open Go.Proofs.Ytkpihibeohjfnaa.Rp
set_option linter.unusedVariables false
set_option linter.unusedSimpArgs false

theorem getz {n k : Nat} : (List.replicate n zl).getD k zl = zl := by
  rw [List.getD_eq_getElem?_getD, List.getElem?_replicate]; split <;> rfl
theorem kp_nil (k : Nat) (fs : List Fi) : kp [] k fs = fs := by
  unfold kp
  rw [List.filter_eq_self]
  intro f _
  simp
theorem lv_ok {w : World} {a : Option Addr} {len cap : Nat} {L : List (List Fi)} (H : Lvs w a len cap L) {k : Nat} (hk : k < len) : ∀ f ∈ L.getD k [], f.ok := by
  obtain ⟨_, _, _, _, _, _, _, hs, _⟩ := H.at k hk
  exact hs.ok
set_option maxRecDepth 100000 in
set_option maxHeartbeats 4000000 in
theorem rapply_any (a : Option Addr) (len cap : Nat) (L : List (List Fi)) (v : Value) (e : Ed) (w : World) (H : Lvs w a len cap L) (HE : EV w v e) (hw : wL L + e.co.length ≤ 1048576) (hg8 : e.go.length ≤ 1048576) (hap : wL (ap L e.go e.co) ≤ 1048576) :
    Calls Try.prog 14 #[.slice a len cap, v] w fun en w' => ApP w L e.go e.co len en w' := by
  obtain ⟨i0, hi, hz0, hz1, hz2⟩ := info_parts (eLv w).info
  obtain ⟨lg, nx, sq, ps, co⟩ := e
  obtain ⟨hok, pa, pc, ca, cc, rfl, HP, HC⟩ := HE
  unfold ev
  dsimp only at *
  have hlen := H.len_eq
  have hcap := H.cap_le
  have hll := wL_len L
  have hn8 : len ≤ 1048576 := by omega
  have hc8 : co.length ≤ 1048576 := by omega
  generalize hpn' : ps.length = pn at *
  generalize hcn' : co.length = cn at *
  have hpn := hpn'.symm
  have hcn := hcn'.symm
  clear hpn' hcn'
  obtain ⟨gx, hgx⟩ : ∃ g, g = w.heap.size := ⟨_, rfl⟩
  obtain ⟨W1, hW1⟩ : ∃ W, W = w.alloc (.cells #[.int .i64 lg, .int .i64 nx, .int .u64 sq, .slice pa pn pc, .slice ca cn cc] 28) := ⟨_, rfl⟩
  have kx : W1.heap[gx]? = some (.cells #[.int .i64 lg, .int .i64 nx, .int .u64 sq, .slice pa pn pc, .slice ca cn cc] 28) := by rw [hW1, hgx]; exact new_at _ _
  have bx : Below w.heap.size w W1 := by rw [hW1]; exact box_below _ _
  have hk : Hid (∀ W, Below W1.heap.size W1 W → W.heap[gx]? = some (.cells #[.int .i64 lg, .int .i64 nx, .int .u64 sq, .slice pa pn pc, .slice ca cn cc] 28)) := fun W b => (b.block _ (blk_lt kx)).trans kx
  have c1 := hid (rvalid_any a len cap L W1 (H.later bx) (by omega))
  have HL : Hid (∀ W, Below W1.heap.size W1 W → Lvs W a len cap L) := fun W b => H.later (Below.up bx b)
  have HPl : Hid (∀ W, Below W1.heap.size W1 W → ePl.Sl W pa pn pc ps) := fun W b => HP.later (Below.up bx b)
  have HCl : Hid (∀ W, Below W1.heap.size W1 W → eAd.Sl W ca cn cc co) := fun W b => HC.later (Below.up bx b)
  have hfo : Hid (∀ k, k < len → ∀ f ∈ L.getD k [], f.ok) := fun k hk => lv_ok H hk
  have hpc := HP.c
  have hcc := HC.c
  have hL8 : Hid (∀ k, k < len → (L.getD k []).length + cn ≤ 1048576) := by
    intro k hk
    have := wL_at (L := L) (i := k) (by omega)
    omega
  have hgood : Hid (good L ps co = (fit L ps && (inn len co && vld (ap L ps co)))) := by show _ = _; unfold good; rw [hlen]
  have c4 : Hid (∀ W2 W g xs, Ou W2 W g xs → Res L ps co (xs.map Lf.fs) → Calls Try.prog 12 #[.slice (some ⟨g, 0, none⟩) len len] W fun e w' => e = .returned (.bool (vld (ap L ps co))) ∧ Below W.heap.size W w') := by
    intro W2 W g xs o hr
    have hxl : xs.length = len := by have := hr.1; rw [List.length_map] at this; rw [this, hlen]
    have := rvalid_any (some ⟨g, 0, none⟩) len len (xs.map Lf.fs) W (by have := o.lvs; rwa [hxl] at this) (by rw [res_w hr]; exact hap)
    rwa [res_vld hr] at this
  replace bx := hid bx
  replace hW1 := hid hW1
  replace hgx := hid hgx
  replace hpn := hid hpn
  replace hcn := hid hcn
  replace hlen := hid hlen
  replace hap := hid hap
  clear kx hll H HP HC hok hw
  cases hv : vld L with
  | false =>
    rw [hv] at c1
    replace hv := hid hv
    go_enter Try.func14, Try.ntmps14
    go_wp2_with (first | (go_at_call 12; rw [← hW1.out]; refine c1.out.mono ?_; rintro e w2 ⟨rfl, b2⟩; replace b2 := hid b2))
    refine bodyPost_ret (v := .tuple #[.slice none 0 0, .int .i64 2]) (by simp [results, Try.results14, go_sem]) rfl ?_
    exact ApP.arg _ hv.out (Below.up bx.out b2.out)
  | true =>
    rw [hv] at c1
    have hnd := hid (vld_parts hv).2.1
    replace hv := hid hv
    go_enter Try.func14, Try.ntmps14
    go_wp2_with (first
      | (go_at_call 12; rw [← hW1.out, ← hgx.out]; refine c1.out.mono ?_; rintro e w2 ⟨rfl, b2⟩)
      | (at_make; refine wpList_make_full _ rfl _ _ 23 rfl W1.heap.size 39 i0 (.slice none 0 0) 1 Try.underlying23 hi hz0 hz1 _ _ _ _ len rfl rfl rfl rfl (by rw [hz2]; show 24 * len ≤ _; omega) (by unfold maxLen; omega) b2.size ?_; intro w3 hrow hg3))
    obtain ⟨g, hg⟩ : ∃ g, g = w2.heap.size := ⟨_, rfl⟩
    have bw3 : Below W1.heap.size W1 w3 := below_grown b2 b2.size hg3 (fun k hk => by cases hk)
    have O3 : Ou W1 w3 g (List.replicate len zl) := by
      refine Ou.made bw3 ?_
      rw [hg]
      have := hrow
      rw [Nat.mul_one] at this
      rw [show (madeCells (Value.slice none 0 0).cells len).toList = List.replicate len (.slice none 0 0) from toList_madeCells_one _ _] at this
      exact this
    rw [← hg]
    have hl3 : Hid ((List.replicate len zl).length = len) := by show _ = _; simp
    have hx3 : Hid (∀ k, k < len → ((List.replicate len zl).getD k zl).fs = if k < 0 then L.getD k [] else []) := fun k _ => by rw [getz, if_neg (by omega)]; rfl
    replace O3 := hid O3
    replace hg := hid hg
    generalize List.replicate len zl = xs3 at *
    clear hrow hg3 bw3 b2 c1
    go_wp2_with fail
    go_loopw [7] (fun ii wr => ∃ (i : Nat) (xs : List Lf), ii = .int .i64 i ∧ i ≤ len ∧ Hid (xs.length = len) ∧ Hid (∀ k, k < len → (xs.getD k zl).fs = if k < i then L.getD k [] else []) ∧ Hid (Ou W1 wr g xs)) (fun ii _ => len - (intOf ii).toNat)
    case atStart => exact ⟨0, xs3, rfl, by omega, hl3, hx3, O3⟩
    case round =>
      clear O3 hl3 hx3
      obtain ⟨i, xs, rfl, hi', hxl, hx, O⟩ := hrel
      by_cases hlt : i < len
      · obtain ⟨lb, lof, la, ln, lc, rfl, cl0, FS, hln⟩ := (HL.out _ O.out.lo).at i hlt
        have clA : (wr.alloc (.cells #[] 43)).cell? ⟨lb, lof + i, none⟩ = some (.slice la ln lc) := cell_later cl0 (box_below _ _)
        have ik0 : (i : Int) < (len : Int) := by omega
        have ok0 : (0 : Int) ≤ (i : Int) := by omega
        have hil : i < xs.length := by rw [hxl.out]; exact hlt
        have hln8 : ln ≤ 1048576 := by have := hL8.out i hlt; omega
        have hlc := FS.c
        obtain ⟨v', W', r', o', gr', q'⟩ := El.app eFi (wr.alloc (.cells #[] 43)) wr.heap.size _ [] (El.Own.made eFi wr) la ln lc _ (FS.later (box_below _ _)) (by show (0 + ln) * 64 ≤ _; omega) (by show 0 + ln ≤ _; omega) (box_below _ _).size
        rw [List.nil_append] at o'
        obtain ⟨a2, c2, hv2⟩ := row_block o'
        rw [← hln] at hv2
        subst hv2
        have bw' : Below wr.heap.size wr W' := below_grown (box_below _ _) (box_below _ _).size gr' (fun j hj => (own_lt (El.Own.made eFi wr) j hj).1)
        obtain ⟨hb', O'⟩ := row_ou O.out hil bw' o' hln (hfo.out i hlt)
        have z9 := cell_of hb' i _ (map_get hil)
        have y9 := fz_of hb' i
        obtain ⟨xa, xn, xc, hhd⟩ : ∃ xa xn xc, hd (xs.getD i zl) = .slice xa xn xc := ⟨_, _, _, rfl⟩
        rw [hhd] at z9
        have hx' : Hid (∀ k, k < len → ((xs.set i ⟨a2, ln, c2, L.getD i []⟩).getD k zl).fs = if k < i + 1 then L.getD k [] else []) := by
          intro k hk
          by_cases e : i = k
          · subst e; rw [Go.Proofs.Ytkpihibeohjfnaa.Ou.getD_set_eq hil, if_pos (by omega)]
          · rw [Go.Proofs.Ytkpihibeohjfnaa.Ou.getD_set_ne e, hx.out k hk]
            by_cases h1 : k < i
            · rw [if_pos h1, if_pos (by omega)]
            · rw [if_neg h1, if_neg (by omega)]
        have hxl' : Hid ((xs.set i ⟨a2, ln, c2, L.getD i []⟩).length = len) := by show _ = _; rw [List.length_set]; exact hxl.out
        replace r' := hid r'
        replace O' := hid O'
        clear FS o' gr' q' bw' hb' O hx hxl hhd hil hln
        go_wp2_with (first | (at_builtin; have hr := r'.out; clear r'; refine wpList_append_run rfl (.tmp 28) (.tmp 32) 39 39 rfl (.slice (some ⟨wr.heap.size, 0, none⟩) 0 0) (.slice la ln lc) (.slice a2 ln c2) rfl rfl hr ?_; clear hr))
        go_roundw
        case rel => exact ⟨i + 1, _, by go_num, by omega, hxl', hx', O'⟩
        case measure => simp [intOf]; omega
      · have hie : i = len := by omega
        subst hie
        have hx' : Hid (∀ k, k < i → (xs.getD k zl).fs = kp (ps.take 0) k (L.getD k [])) := by
          intro k hk
          rw [hx.out k hk, if_pos hk, List.take_zero, kp_nil]
        clear hx
        go_wp2_with fail
        go_loopw [8] (fun jj wr => ∃ (j : Nat) (xs : List Lf), jj = .int .i64 j ∧ j ≤ pn ∧ Hid (xs.length = i) ∧ Hid (∀ k, k < i → (xs.getD k zl).fs = kp (ps.take j) k (L.getD k [])) ∧ Hid (Upto L (ps.take j)) ∧ Hid (Ou W1 wr g xs)) (fun jj _ => pn - (intOf jj).toNat)
        case atStart => exact ⟨0, xs, rfl, by omega, hxl, hx', by rw [List.take_zero]; exact Upto.nil, O⟩
        case round =>
          clear O hxl hx'
          obtain ⟨j, xs, rfl, hj, hxl, hx, hU, O⟩ := hrel
          have kb := hk.out _ O.out.lo
          have f3 := cell_of kb 3 _ rfl
          have f4 := cell_of kb 4 _ rfl
          clear kb
          by_cases hjl : j < pn
          · obtain ⟨pb, pf, rfl, hat⟩ := get1 (HPl.out _ O.out.lo) j hjl
            have hA := pl_at (hat j hjl)
            rw [show ePl.z = zp from rfl, show ePl.k = 2 from rfl] at hA
            obtain ⟨e0, e1⟩ := hA
            have hjs : j < ps.length := by rw [← hpn.out]; exact hjl
            have hsp : Hid (ps = ps.take j ++ ps.getD j zp :: ps.drop (j + 1)) := take_split hjs
            have htk : Hid (ps.take (j + 1) = ps.take j ++ [ps.getD j zp]) := El.take_snoc (E := ePl) hjs
            clear hat hjs
            obtain ⟨qs, hqs⟩ : ∃ qs, qs = ps.take j := ⟨_, rfl⟩
            rw [← hqs] at hx hU hsp htk
            generalize ps.getD j zp = p at *
            obtain ⟨pl, pnn⟩ := p
            dsimp only at e0 e1
            have jk0 : (j : Int) < (pn : Int) := by omega
            have jo0 : (0 : Int) ≤ (j : Int) := by omega
            have hbad : Hid (¬ (isP L ⟨pl, pnn⟩ ∧ (⟨pl, pnn⟩ : Pl) ∉ qs) → good L ps co = false) := by
              intro h
              rw [hgood.out, bad_fit hnd.out hsp.out h]
              rfl
            obtain ⟨gp, hgp⟩ : ∃ g, g = wr.heap.size := ⟨_, rfl⟩
            obtain ⟨Wp, hWp⟩ : ∃ W, W = wr.alloc (.cells #[.int .i64 pl, .int .i64 pnn] 41) := ⟨_, rfl⟩
            have kp_ : Wp.heap[gp]? = some (.cells #[.int .i64 pl, .int .i64 pnn] 41) := by rw [hWp, hgp]; exact new_at _ _
            have bp : Below wr.heap.size wr Wp := by rw [hWp]; exact box_below _ _
            have p0 := cell_of kp_ 0 _ rfl
            have p1 := cell_of kp_ 1 _ rfl
            have p0L := p0
            have p1L := p1
            rw [hWp, hgp] at p0L p1L
            replace hqs := hid hqs
            replace hgp := hid hgp
            replace hWp := hid hWp
            replace bp := hid bp
            replace hsp := hid hsp
            by_cases hneg : pl < 0
            · have hG := hid (hbad.out (fun h => no_level (p := ⟨pl, pnn⟩) (fun h' : 0 ≤ pl ∧ pl < (L.length : Int) => by omega) h.1))
              have q1 : decide (pl < 0) = true := decide_eq_true hneg
              have hB := hid (Below.up bx.out (Below.up O.out.lo bp.out))
              clear hbad hU hx hxl O p0 p1 kp_ hneg
              go_wp2_with fail
              rw [← hWp.out]
              refine bodyPost_ret (v := .tuple #[.slice none 0 0, .int .i64 160]) (by simp [results, Try.results14, go_sem]) rfl ?_
              exact ApP.ver _ hv.out hG.out hB.out
            · have q1 : decide (pl < 0) = false := decide_eq_false hneg
              by_cases hge : (i : Int) ≤ pl
              · have hG := hid (hbad.out (fun h => no_level (p := ⟨pl, pnn⟩) (fun h' : 0 ≤ pl ∧ pl < (L.length : Int) => by rw [hlen.out] at h'; omega) h.1))
                have q2 : decide ((i : Int) ≤ pl) = true := decide_eq_true hge
                have hB := hid (Below.up bx.out (Below.up O.out.lo bp.out))
                clear hbad hU hx hxl O p0 p1 kp_ hneg hge
                go_wp2_with fail
                rw [← hWp.out]
                refine bodyPost_ret (v := .tuple #[.slice none 0 0, .int .i64 160]) (by simp [results, Try.results14, go_sem]) rfl ?_
                exact ApP.ver _ hv.out hG.out hB.out
              · obtain ⟨q, rfl⟩ : ∃ q : Nat, pl = (q : Int) := ⟨pl.toNat, by omega⟩
                have hqi : q < i := by omega
                have q2 : decide (i ≤ q) = false := decide_eq_false (by omega)
                have hql : q < xs.length := by rw [hxl.out]; exact hqi
                obtain ⟨cur, hcur⟩ : ∃ cur, cur = (xs.getD q zl).fs := ⟨_, rfl⟩
                obtain ⟨xa, xn, xc, hhd, hxn⟩ : ∃ xa xn xc, hd (xs.getD q zl) = .slice xa xn xc ∧ xn = (xs.getD q zl).fs.length := ⟨_, _, _, rfl, (O.out.r q hql).1⟩
                have hS : eFi.Sl wr xa xn xc cur := by
                  obtain ⟨h1, h2, h3⟩ := O.out.r q hql
                  obtain ⟨a', c', e2, s, _⟩ := h2.sl h3
                  rw [hhd] at e2
                  injection e2 with e3 e4 e5
                  subst e3 e5
                  rw [hcur, hxn]
                  exact s
                have hcell := O.out.cell hql
                rw [hhd] at hcell
                rw [← hcur] at hxn
                have hcur2 : Hid (cur = kp qs q (L.getD q [])) := hcur.trans (hx.out q hqi)
                have hcur3 : Hid (cur = (xs.getD q zl).fs) := hcur
                have hx8 : xn ≤ 1048576 := by
                  have h1 := hL8.out q hqi
                  have h2 : cur.length ≤ (L.getD q []).length := by rw [hcur2.out]; exact List.length_filter_le _ _
                  omega
                have hxc := hS.c
                have HS : Hid (∀ W, Below Wp.heap.size Wp W → eFi.Sl W xa xn xc cur) := fun W b => hS.later (Below.up bp.out b)
                have HH : Hid (∀ W, Below Wp.heap.size Wp W → W.cell? ⟨g, q, none⟩ = some (.slice xa xn xc)) := fun W b => cell_later hcell (Below.up bp.out b)
                have HG : Hid (∀ W, Below Wp.heap.size Wp W → W.heap[gp]? = some (.cells #[.int .i64 q, .int .i64 pnn] 41)) := fun W b => (b.block _ (blk_lt kp_)).trans kp_
                have qk0 : (q : Int) < (i : Int) := by omega
                have qo0 : (0 : Int) ≤ (q : Int) := by omega
                replace hxn := hid hxn
                clear hcur hS hcell hhd kp_ p0 p1 hneg hge hql
                go_wp2_with fail
                rw [← hWp.out, ← hgp.out]
                clear p0L p1L
                go_loopw [10, 11] (fun lv jj wq => ∃ (m : Nat) (va : Option Addr) (vn vc : Nat), jj = .int .i64 m ∧ m ≤ xn ∧ lv = .slice va vn vc ∧ Hid (Acc eFi Wp wq (.slice va vn vc) (off pnn (cur.take m)))) (fun _ jj _ => xn - (intOf jj).toNat)
                case atStart => exact ⟨0, none, 0, 0, rfl, by omega, rfl, Acc.nil _ _⟩
                case round =>
                  rename_i wq
                  obtain ⟨m, va, vn, vc, rfl, hm, rfl, A⟩ := hrel
                  have kg := HG.out _ A.out.lo
                  have p0 := cell_of kg 0 _ rfl
                  have p1 := cell_of kg 1 _ rfl
                  have hh := HH.out _ A.out.lo
                  have hvn : Hid (vn = (off pnn (cur.take m)).length ∧ vn ≤ vc) := by
                    have := Do.Acc.cap A.out
                    exact ⟨this.1, by omega⟩
                  have hvc := hvn.out.2
                  have hvn8 : vn ≤ 1048576 := by
                    have h1 := hvn.out.1
                    have h2 : (off pnn (cur.take m)).length ≤ (cur.take m).length := List.length_filter_le _ _
                    rw [List.length_take] at h2
                    omega
                  clear kg
                  by_cases hml : m < xn
                  · obtain ⟨fb, fo, rfl, hat⟩ := get1 (HS.out _ A.out.lo) m hml
                    have hF := fi_at (hat m hml)
                    rw [show eFi.z = zf from rfl] at hF
                    have hmc : m < cur.length := by rw [← hxn.out]; exact hml
                    have hos := hid (off_snoc pnn hmc)
                    have hfok : (cur.getD m zf).ok := (HS.out _ A.out.lo).ok _ (El.get_mem (E := eFi) hmc)
                    clear hat hmc
                    have mk0 : (m : Int) < (xn : Int) := by omega
                    have mo0 : (0 : Int) ≤ (m : Int) := by omega
                    generalize cur.getD m zf = f at *
                    obtain ⟨fn, fz, ft, fu, flo, fhi⟩ := f
                    obtain ⟨d0, d1, d2, d3, d4, d5⟩ := hF
                    simp only [show eFi.k = 6 from rfl] at d0 d1 d2 d3 d4 d5
                    dsimp only at d0 d1 d2 d3 d4 d5 hos
                    by_cases hfe : fn = pnn
                    · have qn : (fn != pnn) = false := by rw [hfe]; exact bne_self_eq_false _
                      have hA' : Hid (∀ z, Acc eFi Wp (wr.drewN z) (.slice va vn vc) (off pnn (cur.take (m + 1)))) := by
                        intro z
                        rw [hos.out, if_pos hfe, List.append_nil]
                        exact A.out.later (drewN_below _ _)
                      clear hfe
                      go_wp2_with fail
                      go_quiet (fail)
                      go_wp2_with fail
                      go_roundw
                      case rel => exact ⟨m + 1, va, vn, vc, by go_num, by omega, rfl, hA'.out _⟩
                      case measure => simp [intOf]; omega
                    · have qn : (fn != pnn) = true := by rw [bne_iff_ne]; exact hfe
                      rw [if_neg hfe] at hos
                      clear hfe
                      go_wp2_with fail
                      go_quiet (fail)
                      generalize hwd : World.drewN wr _ = wd at *
                      have bq : Below wr.heap.size wr wd := by rw [← hwd]; exact drewN_below _ _
                      have Aq := A.out.later bq
                      replace p0 := cell_later p0 bq
                      replace p1 := cell_later p1 bq
                      replace hh := cell_later hh bq
                      replace d0 := cell_later d0 bq
                      replace d1 := cell_later d1 bq
                      replace d2 := cell_later d2 bq
                      replace d3 := cell_later d3 bq
                      replace d4 := cell_later d4 bq
                      replace d5 := cell_later d5 bq
                      obtain ⟨v8, W8, r8, A8⟩ := Aq.app1 ⟨fn, fz, ft, fu, flo, fhi⟩ #[.int .i64 fn, .int .i64 fz, .string ft, .string fu, .int .u64 flo, .int .u64 fhi] rfl (by rw [← hvn.out.1]; show (_ + 1) * 64 ≤ _; omega) (by rw [← hvn.out.1]; omega)
                      rw [← hos.out] at A8
                      obtain ⟨va8, vc8, hv8⟩ := A8.shape
                      generalize (off pnn (cur.take (m + 1))).length = vn8 at *
                      subst hv8
                      replace r8 := hid r8
                      replace A8 := hid A8
                      clear Aq bq hwd A
                      go_wp2_with (first | (at_builtin; have hr := r8.out; clear r8; refine wpList_append_run rfl (.tmp 79) (.tmp 88) 39 39 rfl (.slice va vn vc) (.slice (some ⟨wd.heap.size, 0, none⟩) 1 1) (.slice va8 vn8 vc8) rfl rfl hr ?_; clear hr))
                      go_roundw
                      case rel => exact ⟨m + 1, _, _, _, by go_num, by omega, rfl, A8⟩
                      case measure => simp [intOf]; omega
                  · have hme : m = xn := by omega
                    subst hme
                    have hoff : Hid (off pnn (cur.take m) = off pnn cur) := by show _ = _; rw [hxn.out, List.take_length]
                    rw [hoff.out] at A hvn
                    have hql : q < xs.length := by rw [hxl.out]; exact hqi
                    by_cases heq : vn = m
                    · have qe : ((vn : Int) == (m : Int)) = true := by rw [heq]; exact beq_self_eq_true _
                      have hG : Hid (good L ps co = false) := by
                        refine hbad.out (gone_no (by rw [hlen.out]; exact hqi) ?_)
                        rw [← hcur2.out, ← hxn.out, ← hvn.out.1, heq]
                      have hB := hid (Below.up bx.out (Below.up O.out.lo (Below.up bp.out A.out.lo)))
                      clear heq hbad hU hx hxl O A hvn hql
                      go_wp2_with fail
                      refine bodyPost_ret (v := .tuple #[.slice none 0 0, .int .i64 160]) (by simp [results, Try.results14, go_sem]) rfl ?_
                      exact ApP.ver _ hv.out hG.out hB.out
                    · have qe : ((vn : Int) == (m : Int)) = false := by rw [beq_eq_false_iff_ne]; omega
                      obtain ⟨hP1, hP2⟩ := gone_yes (qs := qs) (L := L) (k := q) (n := pnn) (by rw [hlen.out]; exact hqi) (by rw [← hcur2.out, ← hxn.out, ← hvn.out.1]; exact heq)
                      have hU' : Hid (Upto L (ps.take (j + 1))) := by
                        show Upto _ _
                        rw [htk.out]
                        exact hU.out.snoc hP1 hP2
                      have hok' : ∀ f ∈ off pnn cur, f.ok := fun f hf => (HS.out _ A.out.lo).ok f (List.mem_filter.1 hf).1
                      obtain ⟨hb', O'⟩ := row_ou O.out hql (Below.up bp.out A.out.lo) (own_base A.out.o (fun j hj => Nat.le_trans bp.out.size (own_lt A.out.o j hj).1)) hvn.out.1 hok'
                      have y9 := fz_of hb' q
                      have hx' : Hid (∀ k, k < i → ((xs.set q ⟨va, vn, vc, off pnn cur⟩).getD k zl).fs = kp (ps.take (j + 1)) k (L.getD k [])) := by
                        intro k hk
                        rw [htk.out]
                        by_cases e : q = k
                        · subst e
                          rw [Go.Proofs.Ytkpihibeohjfnaa.Ou.getD_set_eq hql]
                          show off pnn cur = _
                          rw [hcur2.out, kp_off]
                        · rw [Go.Proofs.Ytkpihibeohjfnaa.Ou.getD_set_ne e, hx.out k hk, kp_other e]
                      have hxl' : Hid ((xs.set q ⟨va, vn, vc, off pnn cur⟩).length = i) := by show _ = _; rw [List.length_set]; exact hxl.out
                      replace O' := hid O'
                      clear heq hbad hU hx hxl O A hvn hql hok' hb' hP1 hP2
                      go_wp2_with fail
                      go_roundw
                      case rel => exact ⟨j + 1, _, by go_num, by omega, hxl', hx', hU', O'⟩
                      case measure => simp [intOf]; omega
          · have hje : j = pn := by omega
            subst hje
            have htk : Hid (ps.take j = ps) := by show _ = _; rw [hpn.out, List.take_length]
            rw [htk.out] at hU hx
            have hF : Hid (fit L ps = true) := (fit_iff hnd.out).2 hU.out
            have hx' : Hid (∀ k, k < i → Srt k (xs.getD k zl).fs ∧ ((xs.getD k zl).fs).Perm (kp ps k (L.getD k []) ++ cm k (co.take 0))) := by
              intro k hk
              rw [hx.out k hk]
              refine ⟨kp_srt hv.out (by rw [hlen.out]; exact hk), ?_⟩
              have : cm k (co.take 0) = [] := by rw [List.take_zero]; rfl
              rw [this, List.append_nil]
            clear hx hU
            go_wp2_with fail
            go_loopw [12] (fun jj wr => ∃ (m : Nat) (xs : List Lf), jj = .int .i64 m ∧ m ≤ cn ∧ Hid (xs.length = i) ∧ Hid (∀ k, k < i → Srt k (xs.getD k zl).fs ∧ ((xs.getD k zl).fs).Perm (kp ps k (L.getD k []) ++ cm k (co.take m))) ∧ Hid (∀ x ∈ co.take m, 0 ≤ x.l ∧ x.l < (i : Int)) ∧ Hid (Ou W1 wr g xs)) (fun jj _ => cn - (intOf jj).toNat)
            case atStart => exact ⟨0, xs, rfl, by omega, hxl, hx', by simp [Hid], O⟩
            case round =>
              rename_i wz
              clear O hxl hx' f3 f4
              obtain ⟨m, xs, rfl, hm, hxl, hx, hin, O⟩ := hrel
              have kb := hk.out _ O.out.lo
              have f4 := cell_of kb 4 _ rfl
              clear kb
              by_cases hml : m < cn
              · obtain ⟨cb, cf, rfl, hat⟩ := get1 (HCl.out _ O.out.lo) m hml
                have hA := ad_at (hat m hml)
                rw [show eAd.z = za from rfl] at hA
                simp only [show eAd.k = 7 from rfl] at hA
                have hmc : m < co.length := by rw [← hcn.out]; exact hml
                have hmem : Hid (co.getD m za ∈ co) := El.get_mem (E := eAd) hmc
                have hyok : Hid (co.getD m za).ok := (HCl.out _ O.out.lo).ok _ hmem.out
                have htk2 : Hid (co.take (m + 1) = co.take m ++ [co.getD m za]) := El.take_snoc (E := eAd) hmc
                clear hat hmc
                have mk0 : (m : Int) < (cn : Int) := by omega
                have mo0 : (0 : Int) ≤ (m : Int) := by omega
                generalize co.getD m za = y at *
                obtain ⟨yl, yn, yz, yt, yu, ylo, yhi⟩ := y
                obtain ⟨e0, e1, e2, e3, e4, e5, e6⟩ := hA
                dsimp only at e0 e1 e2 e3 e4 e5 e6
                obtain ⟨gt, hgt⟩ : ∃ g, g = wr.heap.size := ⟨_, rfl⟩
                obtain ⟨Wt, hWt⟩ : ∃ W, W = wr.alloc (.cells #[.int .i64 yl, .int .i64 yn, .int .i64 yz, .string yt, .string yu, .int .u64 ylo, .int .u64 yhi] 45) := ⟨_, rfl⟩
                have kt : Wt.heap[gt]? = some (.cells #[.int .i64 yl, .int .i64 yn, .int .i64 yz, .string yt, .string yu, .int .u64 ylo, .int .u64 yhi] 45) := by rw [hWt, hgt]; exact new_at _ _
                have bt : Below wr.heap.size wr Wt := by rw [hWt]; exact box_below _ _
                have t0L := cell_of kt 0 _ rfl
                rw [hWt, hgt] at t0L
                have hbad : Hid (¬ (0 ≤ yl ∧ yl < (i : Int)) → good L ps co = false) := fun h => good_inn (by rw [hlen.out]; exact inn_bad hmem.out h)
                replace hgt := hid hgt
                replace hWt := hid hWt
                replace bt := hid bt
                by_cases hneg : yl < 0
                · have hG := hid (hbad.out (by omega))
                  have q1 : decide (yl < 0) = true := decide_eq_true hneg
                  have hB := hid (Below.up bx.out (Below.up O.out.lo bt.out))
                  clear hbad hx hxl hin O kt hneg hmem hyok htk2
                  go_wp2_with fail
                  rw [← hWt.out]
                  refine bodyPost_ret (v := .tuple #[.slice none 0 0, .int .i64 160]) (by simp [results, Try.results14, go_sem]) rfl ?_
                  exact ApP.ver _ hv.out hG.out hB.out
                · have q1 : decide (yl < 0) = false := decide_eq_false hneg
                  by_cases hge : (i : Int) ≤ yl
                  · have hG := hid (hbad.out (by omega))
                    have q2 : decide ((i : Int) ≤ yl) = true := decide_eq_true hge
                    have hB := hid (Below.up bx.out (Below.up O.out.lo bt.out))
                    clear hbad hx hxl hin O kt hneg hge hmem hyok htk2
                    go_wp2_with fail
                    rw [← hWt.out]
                    refine bodyPost_ret (v := .tuple #[.slice none 0 0, .int .i64 160]) (by simp [results, Try.results14, go_sem]) rfl ?_
                    exact ApP.ver _ hv.out hG.out hB.out
                  · obtain ⟨q, rfl⟩ : ∃ q : Nat, yl = (q : Int) := ⟨yl.toNat, by omega⟩
                    have hqi : q < i := by omega
                    have q2 : decide (i ≤ q) = false := decide_eq_false (by omega)
                    have hql : q < xs.length := by rw [hxl.out]; exact hqi
                    obtain ⟨xa, xn, xc, hhd, hxn⟩ : ∃ xa xn xc, hd (xs.getD q zl) = .slice xa xn xc ∧ xn = (xs.getD q zl).fs.length := ⟨_, _, _, rfl, (O.out.r q hql).1⟩
                    have hS : eFi.Sl wr xa xn xc (xs.getD q zl).fs := by
                      obtain ⟨h1, h2, h3⟩ := O.out.r q hql
                      obtain ⟨a', c', e2, s, _⟩ := h2.sl h3
                      rw [hhd] at e2
                      injection e2 with e3 e4 e5
                      subst e3 e5
                      rw [hxn]
                      exact s
                    have hcell := O.out.cell hql
                    rw [hhd] at hcell
                    have hx8 : xn ≤ 1048576 := by
                      have h1 := hL8.out q hqi
                      have h2 := (hx.out q hqi).2.length_eq
                      rw [List.length_append] at h2
                      have h3 : (kp ps q (L.getD q [])).length ≤ (L.getD q []).length := List.length_filter_le _ _
                      have h4 := cm_len q (co.take m)
                      rw [List.length_take] at h4
                      omega
                    have hxc := hS.c
                    have bD : Below wr.heap.size wr Wt.drew := Below.up bt.out (drew_below Wt)
                    have hput := hid (rput_any q xa xn xc _ ⟨yn, yz, yt, yu, ylo, yhi⟩ Wt.drew (hS.later bD) hyok.out.2 hx8 (hx.out q hqi).1)
                    unfold fv at hput
                    dsimp only at hput
                    have hfin : Hid (∀ (w' : World) (g' c' : Nat) (ys : List Fi), Acc eFi Wt.drew w' (.slice (some ⟨g', 0, none⟩) (xn + 1) c') ys → Srt q ys → ys.Perm ((xs.getD q zl).fs ++ [⟨yn, yz, yt, yu, ylo, yhi⟩]) → (∃ z, w'.cell? ⟨g, q, none⟩ = some z) ∧ w'.frozen? ⟨g, q, none⟩ = false ∧ ∃ xs', xs'.length = i ∧ (∀ k, k < i → Srt k (xs'.getD k zl).fs ∧ ((xs'.getD k zl).fs).Perm (kp ps k (L.getD k []) ++ cm k (co.take (m + 1)))) ∧ Ou W1 (w'.setCell ⟨g, q, none⟩ (.slice (some ⟨g', 0, none⟩) (xn + 1) c')) g xs') := by
                      intro w' g' c' ys A hs hp
                      have hyl : xn + 1 = ys.length := by rw [hp.length_eq, List.length_append, ← hxn]; rfl
                      have hoks : ∀ f ∈ ys, f.ok := by
                        intro f hf
                        rw [hp.mem_iff, List.mem_append, List.mem_singleton] at hf
                        rcases hf with hf | rfl
                        · exact hS.ok f hf
                        · exact hyok.out.2
                      obtain ⟨hb', O'⟩ := row_ou O.out hql (Below.up bD A.lo) (own_base A.o (fun j hj => Nat.le_trans bD.size (own_lt A.o j hj).1)) hyl hoks
                      refine ⟨⟨_, cell_of hb' q _ (map_get hql)⟩, fz_of hb' q, _, by rw [List.length_set]; exact hxl.out, ?_, O'⟩
                      intro k hk
                      rw [htk2.out, cm_snoc]
                      by_cases e : q = k
                      · subst e
                        rw [Go.Proofs.Ytkpihibeohjfnaa.Ou.getD_set_eq hql, if_pos rfl]
                        refine ⟨hs, hp.trans ?_⟩
                        rw [← List.append_assoc]
                        exact (hx.out q hk).2.append_right _
                      · rw [Go.Proofs.Ytkpihibeohjfnaa.Ou.getD_set_ne e, if_neg (by intro h; apply e; have h' : (q : Int) = (k : Int) := h; omega), List.append_nil]
                        exact hx.out k hk
                    have hin' : Hid (∀ x ∈ co.take (m + 1), 0 ≤ x.l ∧ x.l < (i : Int)) := by
                      intro x hx
                      rw [htk2.out, List.mem_append, List.mem_singleton] at hx
                      rcases hx with hx | rfl
                      · exact hin.out x hx
                      · exact ⟨by show (0 : Int) ≤ (q : Int); omega, by show (q : Int) < (i : Int); omega⟩
                    have kD : Wt.drew.heap[gt]? = some (.cells #[.int .i64 q, .int .i64 yn, .int .i64 yz, .string yt, .string yu, .int .u64 ylo, .int .u64 yhi] 45) := kt
                    have g0 := cell_of kD 0 _ rfl
                    have g1 := cell_of kD 1 _ rfl
                    have g2 := cell_of kD 2 _ rfl
                    have g3 := cell_of kD 3 _ rfl
                    have g4 := cell_of kD 4 _ rfl
                    have g5 := cell_of kD 5 _ rfl
                    have g6 := cell_of kD 6 _ rfl
                    have gh := cell_later hcell bD
                    have qk0 : (q : Int) < (i : Int) := by omega
                    have qo0 : (0 : Int) ≤ (q : Int) := by omega
                    replace gh := hid gh
                    replace kD := hid kD
                    have hgtg : Hid (gt ≠ g) := by have := blk_lt O.out.blk; have := hgt.out; show _ ≠ _; omega
                    clear hbad hx hxl hin O kt hneg hge hmem hyok htk2 hS hcell hhd hxn bD hql g0 g1 g2 g3 g4 g5 g6
                    go_wp2_with fail
                    rw [← hWt.out, ← hgt.out]
                    clear t0L
                    refine wp_region_held_drew (S := fun V => V.heap[gt]? = some (.cells #[.int .i64 q, .int .i64 yn, .int .i64 yz, .string yt, .string yu, .int .u64 ylo, .int .u64 yhi] 45)) (by kernel_rfl) kD.out (fun hS => ?_)
                    generalize World.drew Wt = D at *
                    refine wpAnyH_take (i := 0) (v := ?v1) rfl (by kernel_rfl) (by kernel_rfl) (by kernel_rfl) (fun _ _ _ h => h) (Or.inl ⟨by rfl, ?h1⟩) hS ?_
                    case h1 => (intro W hW; go_simp; try (with_reducible rfl))
                    go_simp
                    refine wpAnyH_take (i := 1) (v := ?v2) rfl (by kernel_rfl) (by kernel_rfl) (by kernel_rfl) (fun _ _ _ h => h) (Or.inl ⟨by rfl, ?h2⟩) hS ?_
                    case h2 => (intro W hW; go_simp; try (with_reducible rfl))
                    go_simp
                    refine wpAnyH_take (i := 2) (v := ?v3) rfl (by kernel_rfl) (by kernel_rfl) (by kernel_rfl) (fun _ _ _ h => h) (Or.inl ⟨by rfl, ?h3⟩) hS ?_
                    case h3 => (intro W hW; have cc := cell_of hW 0 _ rfl; go_simp; try (with_reducible rfl))
                    go_simp
                    refine wpAnyH_take (i := 3) (v := ?v4) rfl (by kernel_rfl) (by kernel_rfl) (by kernel_rfl) (fun _ _ _ h => h) (Or.inl ⟨by rfl, ?h4⟩) hS ?_
                    case h4 => (intro W hW; go_simp; try (with_reducible rfl))
                    go_simp
                    refine wpAnyH_take (i := 4) (v := ?v5) rfl (by kernel_rfl) (by kernel_rfl) (by kernel_rfl) (fun _ _ _ h => h) (Or.inl ⟨by rfl, ?h5⟩) hS ?_
                    case h5 => (intro W hW; go_simp; try (with_reducible rfl))
                    go_simp
                    refine wpAnyH_take (i := 5) (v := ?v6) rfl (by kernel_rfl) (by kernel_rfl) (by kernel_rfl) (fun _ _ _ h => h) (Or.inl ⟨by rfl, ?h6⟩) hS ?_
                    case h6 => (intro W hW; have cc := cell_of hW 0 _ rfl; go_simp; try (with_reducible rfl))
                    go_simp
                    refine wpAnyH_take (i := 6) (v := ?v7) rfl (by kernel_rfl) (by kernel_rfl) (by kernel_rfl) (fun _ _ _ h => h) (Or.inl ⟨by rfl, ?h7⟩) hS ?_
                    case h7 => (intro W hW; go_simp; try (with_reducible rfl))
                    go_simp
                    refine wpAnyH_take (i := 8) (v := ?v8) rfl (by kernel_rfl) (by kernel_rfl) (by kernel_rfl) (fun _ _ _ h => h) (Or.inl ⟨by rfl, ?h8⟩) hS ?_
                    case h8 => (intro W hW; go_simp; try (with_reducible rfl))
                    go_simp
                    refine wpAnyH_take (i := 9) (v := ?v9) rfl (by kernel_rfl) (by kernel_rfl) (by kernel_rfl) (fun _ _ _ h => h) (Or.inl ⟨by rfl, ?h9⟩) hS ?_
                    case h9 => (intro W hW; have cc := cell_of hW 0 _ rfl; go_simp; try (with_reducible rfl))
                    go_simp
                    refine wpAnyH_take (i := 10) (v := ?v10) rfl (by kernel_rfl) (by kernel_rfl) (by kernel_rfl) (fun _ _ _ h => h) (Or.inl ⟨by rfl, ?h10⟩) hS ?_
                    case h10 => (intro W hW; go_simp; try (with_reducible rfl))
                    go_simp
                    refine wpAnyH_take (i := 11) (v := ?v11) rfl (by kernel_rfl) (by kernel_rfl) (by kernel_rfl) (fun _ _ _ h => h) (Or.inl ⟨by rfl, ?h11⟩) hS ?_
                    case h11 => (intro W hW; have cc1 := cell_of hW 1 _ rfl; have cc2 := cell_of hW 2 _ rfl; have cc3 := cell_of hW 3 _ rfl; have cc4 := cell_of hW 4 _ rfl; have cc5 := cell_of hW 5 _ rfl; have cc6 := cell_of hW 6 _ rfl; go_simp; try (with_reducible rfl))
                    go_simp
                    refine wpAnyH_ready (rs := [7]) (by kernel_rfl) (by simp) ?_
                    refine AllReadyH.cons rfl (fun K hK => ?_) ?_
                    · have gh' := gh.out
                      go_simp
                      refine hK.out _ _ hS (fun hS => ?_)
                      clear hK K gh' 
                      refine wpAnyH_ready (rs := [12]) (by kernel_rfl) (by simp) ?_
                      refine AllReadyH.cons rfl (fun K hK => ?_) ?_
                      · go_simp
                        go_wp2_with fail
                        refine hput.out.mono ?_
                        rintro e w9 ⟨g', c', ys, rfl, A9, hs9, hp9⟩
                        obtain ⟨⟨z9, hz9⟩, hf9, xs', hl9, hx9, O9⟩ := hfin.out w9 g' c' ys A9 hs9 hp9
                        have hS9 := hid ((A9.lo.block _ (blk_lt hS)).trans hS)
                        replace hl9 := hid hl9
                        replace hx9 := hid hx9
                        replace O9 := hid O9
                        clear A9 hs9 hp9 hfin hput gh
                        refine hK.out _ _ hS9.out (fun hS => ?_)
                        clear hK K
                        refine wpAnyH_take (i := 13) (v := ?v12) rfl (by kernel_rfl) (by kernel_rfl) (by kernel_rfl) (fun _ _ _ h => h) (Or.inl ⟨by rfl, ?h12⟩) hS ?_
                        case h12 => (intro W hW; go_simp; try (with_reducible rfl))
                        go_simp
                        refine wpAnyH_ready (rs := [14]) (by kernel_rfl) (by simp) ?_
                        refine AllReadyH.cons rfl (fun K hK => ?_) ?_
                        · have hS10 := hid ((set_ne w9 g gt q (.slice (some ⟨g', 0, none⟩) (xn + 1) c') hgtg.out).trans hS9.out)
                          go_simp
                          refine hK.out _ _ hS10.out (fun hS => ?_)
                          clear hK K
                          refine wpAnyH_done (by kernel_rfl) ?_ _
                          go_wp2_with fail
                          go_roundw
                          case rel => exact ⟨m + 1, _, by go_num, by omega, hl9, hx9, hin', O9⟩
                          case measure => simp [intOf]; omega
                        exact AllReadyH.nil
                      exact AllReadyH.nil
                    exact AllReadyH.nil
              · have hme : m = cn := by omega
                subst hme
                have htk2 : Hid (co.take m = co) := by show _ = _; rw [hcn.out, List.take_length]
                rw [htk2.out] at hx hin
                have hI : Hid (inn i co = true) := inn_of hin.out
                have hR : Hid (Res L ps co (xs.map Lf.fs)) := by
                  refine ⟨by rw [List.length_map, hxl.out, hlen.out], fun k hk => ?_⟩
                  rw [hlen.out] at hk
                  have e1 : (xs.map Lf.fs).getD k [] = (xs.getD k zl).fs := by
                    rw [List.getD_eq_getElem?_getD, List.getD_eq_getElem?_getD, List.getElem?_map, List.getElem?_eq_getElem (by rw [hxl.out]; exact hk)]; rfl
                  rw [e1]
                  exact ⟨(hx.out k hk).2, (hx.out k hk).1⟩
                have c9 := hid (c4.out _ _ _ _ O.out hR.out)
                cases hB : vld (ap L ps co) with
                | false =>
                  rw [hB] at c9
                  have hG : Hid (good L ps co = false) := by show _ = _; rw [hgood.out, hB, hI.out, hF.out]; rfl
                  clear hx hin
                  go_wp2_with (first | (go_at_call 12; refine c9.out.mono ?_; rintro e w10 ⟨rfl, b10⟩; replace b10 := hid b10))
                  refine bodyPost_ret (v := .tuple #[.slice none 0 0, .int .i64 160]) (by simp [results, Try.results14, go_sem]) rfl ?_
                  exact ApP.ver _ hv.out hG.out (Below.up bx.out (Below.up O.out.lo b10.out))
                | true =>
                  rw [hB] at c9
                  have hG : Hid (good L ps co = true) := by show _ = _; rw [hgood.out, hB, hI.out, hF.out]; rfl
                  have hap' : Hid (xs.map Lf.fs = ap L ps co) := res_ap hR.out (by rw [res_vld hR.out]; exact hB)
                  clear hx hin
                  go_wp2_with (first | (go_at_call 12; refine c9.out.mono ?_; rintro e w10 ⟨rfl, b10⟩; replace b10 := hid b10))
                  refine bodyPost_ret (v := .tuple #[.slice (some ⟨g, 0, none⟩) i i, .int .i64 0]) (by simp [results, Try.results14, go_sem]) rfl ?_
                  exact ApP.ok _ g xs hv.out hG.out ((Ay.Ou.base O.out bx.out).later b10.out) hap'.out
end Go.Proofs.Ytkpihibeohjfnaa.Rv
