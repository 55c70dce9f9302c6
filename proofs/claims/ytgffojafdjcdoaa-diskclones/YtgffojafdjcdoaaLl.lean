/- DiskLasts, walked. -/
import Derived.Test.YtgffojafdjcdoaaDd
import Derived.Deep.RegionHeld
import Derived.BigQuiet
namespace Go.Proofs.Ytgffojafdjcdoaa.Ll
open Go.ChangeShapes Go.WideShapes Go.ChangeAt Go.RowKit
open Go.Proofs (encStr)
open Go.Proofs.Ytgffojafdjcdoaa.By
open Go.Proofs.Ytgffojafdjcdoaa.Ln
open Go.Proofs.Ytgffojafdjcdoaa.Ac
open Go.Proofs.Ytgffojafdjcdoaa.Mp
open Go.Proofs.Ytgffojafdjcdoaa.Dk
open Go.Proofs.Ytgffojafdjcdoaa.Df
open Go.Proofs.Ytgffojafdjcdoaa.Dg
open Go.Proofs.Ytgffojafdjcdoaa.Dh
open Go.Proofs.Ytgffojafdjcdoaa.Us
open Go.Proofs.Ytgffojafdjcdoaa.Lt
open Go.Proofs.Ytgffojafdjcdoaa.Cr
open Go.Proofs.Ytgffojafdjcdoaa.Cs
open Go.Proofs.Ytgffojafdjcdoaa.Pw
open Go.Proofs.Ytgffojafdjcdoaa.Cl (clone_any own_base)
open Go.Proofs.Ytgffojafdjcdoaa.Rd
open Go.Proofs.Ytgffojafdjcdoaa.Dd
set_option linter.unusedVariables false
set_option linter.unusedSimpArgs false

def za : A := ⟨0, ⟨#[]⟩, ⟨#[]⟩, none, 0, 0, [], 0, 0, none, 0, 0, []⟩
/-- A slice of the law's acts that can be read. -/
def Acts (w : World) (a : Option Addr) (len cap : Nat) (xs : List A) : Prop :=
  xs.length = len ∧ len ≤ cap ∧ (a = none → len = 0 ∧ cap = 0) ∧ (∀ x ∈ xs, x.ok w ∧ x.name.size ≤ 9223372036854775807 ∧ x.to.size ≤ 9223372036854775807) ∧
    ∀ b o p, a = some ⟨b, o, p⟩ → 0 < len → p = none ∧ ∀ i, i < len → ∀ k, k < 7 → w.cell? ⟨b, o + i * 7 + k, none⟩ = (xs.getD i za).cells[k]?
theorem Acts.later {w w' : World} {a : Option Addr} {len cap : Nat} {xs : List A} (h : Acts w a len cap xs) (b : Below w.heap.size w w') : Acts w' a len cap xs :=
  ⟨h.1, h.2.1, h.2.2.1, fun x hx => ⟨(h.2.2.2.1 x hx).1.later b, (h.2.2.2.1 x hx).2⟩, fun q o p e h0 => ⟨(h.2.2.2.2 q o p e h0).1, fun i hi k hk => by
    have := (h.2.2.2.2 q o p e h0).2 i hi k hk
    have hs : ((xs.getD i za).cells[k]?).isSome = true := by
      match k, hk with
      | 0, _ => rfl
      | 1, _ => rfl
      | 2, _ => rfl
      | 3, _ => rfl
      | 4, _ => rfl
      | 5, _ => rfl
      | 6, _ => rfl
    cases hv : (xs.getD i za).cells[k]? with
    | none => rw [hv] at hs; cases hs
    | some v => rw [hv] at this; exact cell_later b this⟩⟩
theorem str_take (zs : List Int) (m : Nat) (h : m ≤ zs.length) : (str zs).extract 0 m = str (zs.take m) := by
  have e : str zs = str (zs.take m) ++ str (zs.drop m) := by rw [str_append, List.take_append_drop]
  have hl : (str (zs.take m)).size = m := by rw [str_size, List.length_take]; omega
  rw [e]
  exact ByteArray.extract_append_eq_left hl.symm
theorem wpList_append_wanted {P : Program} {w w' : World} {ops : Array Oper} {rest : List Oper} {o : Oper} {a : Act} {Q : Exit → Act → World → Prop} (hg : Region.wanted o (yielded ops a.tmps) = true) (s x : Operand) (t tx : TypeId) (hop : o.op = Op.call { callee := Callee.builtin Builtin.append, args := #[s, x], argTypes := #[t, tx] })
    (u v v' : Value) (hs : a.eval s = u) (hx : a.eval x = v) (hrun : (Builtin.append_ #[t, tx] o.type #[u, v]).run P w = .ok v' w') (hK : wpList P ops Q rest (a.put o.dst v') w') : wpList P ops Q (o :: rest) a w := by
  refine wpList_step fun K' hK' => ?_
  simp only [hg, if_true]
  unfold Oper.wp
  simp [execOp, hop, resolve, invoke, builtin, hs, hx, hrun, Result.andThen]
  exact hK' _ _ hK
/-- What Crash(append([]int{}, keep...)) is handed. -/
theorem copy_ints (W0 : World) {ka : Option Addr} {kl kc : Nat} {ks : List Int} (HI : Ints W0 ka kl kc ks) (hkl : kl ≤ 140737488351232 / 8) :
    ∃ gv cv w1, (Builtin.append_ #[33, 33] 33 #[.slice (some ⟨W0.heap.size, 0, none⟩) 0 0, .slice ka kl kc]).run Try.prog (W0.alloc (.cells #[] 3)) = .ok (.slice (some ⟨gv, 0, none⟩) kl cv) w1 ∧ Ints w1 (some ⟨gv, 0, none⟩) kl cv ks ∧ W0.heap.size ≤ gv ∧ Below W0.heap.size W0 w1 := by
  obtain ⟨i0, hi, hz0, hz1, hz2⟩ := info_parts Dn.info3
  have own0 : (W0.alloc (.cells #[] 3)).ownsRow W0.heap.size 3 1 (.slice (some ⟨W0.heap.size, 0, none⟩) 0 0) 0 [] := World.ownsRow_made W0 #[] 0 (Nat.le_refl _) (by unfold maxLen; omega) rfl
  have b0 : Below W0.heap.size W0 (W0.alloc (.cells #[] 3)) := box_below _ _
  cases ka with
  | none =>
    obtain ⟨rfl, rfl⟩ := HI.2.2.1 rfl
    have hk : ks = [] := List.eq_nil_of_length_eq_zero HI.1
    subst hk
    exact ⟨W0.heap.size, 0, W0.alloc (.cells #[] 3), run_append_owned_none (P := Try.prog) (w := W0.alloc (.cells #[] 3)) W0.heap.size 33 33 3 i0 1 Try.underlying33 hi _ _ _ own0, ⟨rfl, Nat.le_refl _, fun e => by simp at e, by simp, fun x hx i hi => by omega⟩, Nat.le_refl _, b0⟩
  | some ad =>
    have HJ := ints_later HI b0
    have BL : ∀ j u, (ks.map (Value.int .i64))[j]? = some u → (W0.alloc (.cells #[] 3)).cell? (ad.add j) = some u := by
      intro j u hu
      rw [List.getElem?_map] at hu
      cases hj : ks[j]? with
      | none => rw [hj] at hu; simp at hu
      | some y =>
        rw [hj] at hu
        simp at hu
        have hlt : j < ks.length := (List.getElem?_eq_some_iff.1 hj).1
        have := HJ.2.2.2.2 ad rfl j (by rw [← HJ.1]; exact hlt)
        rw [List.getD_eq_getElem?_getD, hj] at this
        rw [← hu]
        exact this
    obtain ⟨v', w', h1, own1, g1, hnil1⟩ := run_append_own (P := Try.prog) (w := W0.alloc (.cells #[] 3)) W0.heap.size 33 33 3 i0 (.int .i64 0) 1 8 Try.underlying33 hi hz0 hz1 hz2 rfl (by decide) _ _ _ own0 ad kl kc (ks.map (Value.int .i64)) (by simp; exact HI.1) BL (Dn.one_int _) (by unfold maxLen; omega) (by omega) (by simp)
    have hnil : v' ≠ .slice none 0 0 := fun e => by have := hnil1.1 e; simp at this
    rw [Nat.zero_add, List.nil_append] at own1
    obtain ⟨gv, cv, hv1, hcv⟩ : ∃ gv cv, v' = .slice (some ⟨gv, 0, none⟩) kl cv ∧ kl ≤ cv := by
      rcases own1.2 with ⟨h, _⟩ | ⟨gv, cv, cur, h, _, _, hn, _⟩
      · exact absurd h hnil
      · exact ⟨gv, cv, by simpa using h, by omega⟩
    subst hv1
    have hgv := World.ownsRow.lt own1 gv rfl
    refine ⟨gv, cv, w', h1, ⟨HI.1, hcv, fun e => by simp at e, HI.2.2.2.1, ?_⟩, hgv.1, b0.grown g1 b0.size (by intro k hk; simp [Value.ownBlock] at hk; omega)⟩
    intro y hy i hi
    simp at hy
    subst hy
    have hl1 := HI.1
    have hc := World.ownsRow.cellAt own1 i (by omega)
    rw [addr_add, Nat.zero_add, hc]
    simp [List.getElem?_map, List.getD_eq_getElem?_getD, List.getElem?_eq_getElem (show i < ks.length by omega)]
/-- The i-th file of the list, ahead of a crash and behind it. -/
theorem file_at {S : St} {fs2 : Fs} (ks : List Int) (Al : Pw.Alike fs2 S.fs) (hn : (names S.fs).Nodup) (hok : S.ok) (hk : ∀ s f, seek S.fs s = some f → f.k ≤ f.zs.length) (i : Nat) (hi : i < S.fs.length) :
    ∃ (nm : ByteArray) (f : Fl) (sl : Value), encStr ((lst S.fs).getD i []) = .string nm ∧ nm.size ≤ 9223372036854775807 ∧ f.k ≤ f.zs.length ∧ f.zs.length ≤ used S.fs ∧ fnd { S with fs := fs2 } nm = (⟨sl, f.zs, f.k⟩, 0) ∧ fnd (crs S ks) nm = (cutF f (kpt ks i), 0) := by
  obtain ⟨x, hx⟩ : ∃ x, x = (lst S.fs).getD i [] := ⟨_, rfl⟩
  have hm : x ∈ names S.fs := by rw [hx]; exact lst_mem.1 (getD_mem (by rw [lst_len]; exact hi))
  obtain ⟨f, hf⟩ := seek_name hm
  obtain ⟨sl, h2⟩ := Al.at_ x f hf
  have h3 := crs_at hn ks i hi f (by rw [← hx]; exact hf)
  rw [← hx] at h3
  have hmem := seek_mem hf
  have h64 : 1 ≤ x.length ∧ x.length ≤ 64 := hok.name _ hmem
  have hN : isN ⟨x.toArray⟩ = true := by
    unfold isN
    have : (⟨x.toArray⟩ : ByteArray).size = x.length := by show x.toArray.size = _; simp
    simp [this]; omega
  refine ⟨⟨x.toArray⟩, f, sl, by rw [← hx], by show x.toArray.size ≤ _; simp; omega, hk x f hf, ?_, ?_, ?_⟩
  · have : flen S.fs x = f.zs.length := by unfold flen; rw [hf]
    rw [← this, ← sum_names hn]
    have h1 := Cl.sum_sub S.fs (l := [x]) (by simp) (m := names S.fs) (fun z hz => by simp at hz; subst hz; exact hm)
    simpa [sumOf] using h1
  · unfold fnd
    rw [if_neg (by simp [hN])]
    simp [h2]
  · unfold fnd
    rw [if_neg (by simp [hN])]
    simp [h3]
/-- A disk that another one's step has not touched. -/
theorem disk_beside {w w' : World} {base2 g2 b2 : Nat} {P P2 : Nat → Prop} {S2 : St} (H : Disk w base2 g2 b2 P2 S2) (F : Fr P w w') (hd : ∀ j, P2 j → ¬ P j) : Disk w' base2 g2 b2 P2 S2 :=
  H.kept ⟨F.size, fun j hj _ => F.block j (H.low j hj).2 (hd j hj)⟩ (fun _ h => h) (fun j hj => ⟨(H.low j hj).1, Nat.lt_of_lt_of_le (H.low j hj).2 F.size⟩)
set_option maxRecDepth 10000 in
theorem lasts_no (q : Int) (va vk : Value) (w : World) (h : isQ q = false) : Calls Try.prog 6 #[.int .i64 q, va, vk] w fun e w' => e = .returned (.bool true) ∧ Below w.heap.size w w' := by
  have HN := hid (new_no q h w)
  have hE : ∀ w, Sem.run Try.prog (binOp .eql 23 (.pointer none) (.pointer none)) w = .ok (.bool true) w := fun w => rfl
  have hq : q < 0 ∨ 268435456 < q := by unfold isQ at h; simp at h; omega
  clear h
  rcases hq with hq | hq
  · go_enter Try.func6, Try.ntmps6
    go_wp2_with fail
    refine HN.out.mono ?_
    rintro e w1 ⟨rfl, rfl⟩
    go_wp2_with fail
    go_ret
    exact ⟨rfl, Below.refl _ _⟩
  · have hq2 : decide (q < 0) = false := decide_eq_false (by omega)
    go_enter Try.func6, Try.ntmps6
    go_wp2_with fail
    refine HN.out.mono ?_
    rintro e w1 ⟨rfl, rfl⟩
    go_wp2_with fail
    go_ret
    exact ⟨rfl, Below.refl _ _⟩
set_option maxRecDepth 100000 in
set_option maxHeartbeats 4000000 in
theorem lasts_yes (q : Int) (a : Option Addr) (len cap : Nat) (xs : List A) (ka : Option Addr) (kl kc : Nat) (ks : List Int) (w : World) (H : Acts w a len cap xs) (hl : len ≤ 140737488351232) (HK : Ints w ka kl kc ks) (hkl : kl ≤ 140737488351232 / 8) (h : isQ q = true) :
    Calls Try.prog 6 #[.int .i64 q, .slice a len cap, .slice ka kl kc] w fun e w' => e = .returned (.bool true) ∧ Below w.heap.size w w' := by
  have HN := hid (new_ok q h w)
  have hE : ∀ (x : Addr) (w : World), Sem.run Try.prog (binOp .eql 23 (.pointer (some x)) (.pointer none)) w = .ok (.bool false) w := fun x w => rfl
  obtain ⟨n0, hn0⟩ : ∃ n0, n0 = w.heap.size := ⟨_, rfl⟩
  have hA := hid (fun W (h : Below n0 w W) => H.later (by rw [← hn0]; exact h) : ∀ W, Below n0 w W → Acts W a len cap xs)
  have hKs := hid (fun W (h : Below n0 w W) => ints_later HK (by rw [← hn0]; exact h) : ∀ W, Below n0 w W → Ints W ka kl kc ks)
  have hxl := H.1
  have hcap := H.2.1
  rw [← hn0] at HN
  replace hn0 := hid hn0
  clear H HK h
  go_enter Try.func6, Try.ntmps6
  go_wp2_with fail
  refine HN.out.mono ?_
  rintro e w1 ⟨g, b, rfl, D1, b1⟩
  replace D1 := hid D1
  replace b1 := hid b1
  go_wp2_with fail
  go_loopw [9] (fun iv wr => ∃ (i : Nat) (S : St) (P : Nat → Prop), iv = .int .i64 (i : Int) ∧ i ≤ len ∧ S.rf ≤ (i : Int) ∧ Hid (Disk wr n0 g b P S) ∧ Hid (Below n0 w wr)) (fun iv _ => len - (intOf iv).toNat)
  case atStart => exact ⟨0, _, _, rfl, by omega, by simp, D1, b1⟩
  case round =>
    obtain ⟨i, S, P, rfl, hi, hrf, hD, hB⟩ := hrel
    have hnw : n0 ≤ wr.heap.size := by have := hB.out.size; have := hn0.out; omega
    by_cases hlt : i < len
    · have HA := hA.out wr hB.out
      obtain ⟨bk, o, rfl, hc⟩ : ∃ bk o, a = some ⟨bk, o, none⟩ ∧ ∀ k, k < 7 → wr.cell? ⟨bk, o + i * 7 + k, none⟩ = (xs.getD i za).cells[k]? := by
        cases a with
        | none => have := HA.2.2.1 rfl; omega
        | some ad =>
          obtain ⟨bk, o, p⟩ := ad
          obtain ⟨rfl, h⟩ := HA.2.2.2.2 bk o p rfl (by omega)
          exact ⟨bk, o, rfl, h i hlt⟩
      have hm : xs.getD i za ∈ xs := by rw [List.getD_eq_getElem?_getD, List.getElem?_eq_getElem (by omega)]; exact List.getElem_mem _
      obtain ⟨hok, hnm, hto⟩ := HA.2.2.2.1 _ hm
      have HDo := hid (does_any (xs.getD i za) wr hD.out hnw (by omega) hok hnm hto)
      have c0 : wr.cell? ⟨bk, o + i * 7, none⟩ = _ := hc 0 (by omega)
      have c1 := hc 1 (by omega)
      have c2 := hc 2 (by omega)
      have c3 := hc 3 (by omega)
      have c4 := hc 4 (by omega)
      have c5 := hc 5 (by omega)
      have c6 := hc 6 (by omega)
      revert HDo c0 c1 c2 c3 c4 c5 c6
      clear hok hnm hto hm hc HA
      generalize xs.getD i za = x
      obtain ⟨x0, x1, x2, x3, x4, x5, x6, x7, x8, x9, xa, xb, xc⟩ := x
      intro HDo c0 c1 c2 c3 c4 c5 c6
      simp only [A.cells] at c0 c1 c2 c3 c4 c5 c6
      have ii : (i : Int) < (len : Int) := by omega
      go_wp2_with fail
      refine HDo.out.mono ?_
      rintro e w2 ⟨⟨cc, rfl⟩, S', P', D', B', r'⟩
      have B2 := hid (hB.out.trans B')
      replace D' := hid D'
      clear B' HDo
      go_wp2_with fail
      exact ⟨⟨i + 1, S', P', by go_num, by omega, by omega, D', B2⟩, by simp [intOf]; omega⟩
    · have e1 : i = len := by omega
      subst e1
      have ii : ¬ (i : Int) < (i : Int) := by omega
      replace hKs := hid (hKs.out wr hB.out)
      clear HN hA hrf hlt hi hl hxl hcap D1 b1
      have HCl := hid (clone_any wr hD.out)
      go_wp2_with fail
      refine HCl.out.mono ?_
      rintro e w2 ⟨g2, b2, fs2, rfl, D2, Al, bb2⟩
      have hPw := hid hD.out.plow
      have hD2 := hid (hD.out.later bb2)
      replace hB := hid (hB.out.trans (bb2.mono hnw))
      replace hKs := hid (ints_later hKs.out bb2)
      have hn2 : n0 ≤ w2.heap.size := Nat.le_trans hnw bb2.size
      have hnw2 := hid bb2.size
      replace D2 := hid D2
      replace Al := hid Al
      clear HCl bb2
      obtain ⟨gv, cv, w3, r3, K3, hgv, b3⟩ := copy_ints w2 hKs.out hkl
      replace hB := hid (hB.out.trans (b3.mono hn2))
      have hD3 := hid (hD2.out.later b3)
      have D3 := hid (D2.out.later b3)
      replace K3 := hid K3
      have hn3 : n0 ≤ w3.heap.size := Nat.le_trans hn2 b3.size
      clear b3 D2 hD2
      have HCr := hid (crash_any (some ⟨gv, 0, none⟩) kl cv ks w3 hD3.out K3.out (by omega) (fun y hy h => by simp at hy; subst hy; intro hp; have := hPw.out gv hp; have := hnw2.out; omega))
      go_wp2_with (at_builtin; refine wpList_append_wanted (by rfl) (.tmp 57) (.tmp 58) 33 33 rfl (.slice (some ⟨w2.heap.size, 0, none⟩) 0 0) (.slice ka kl kc) (.slice (some ⟨gv, 0, none⟩) kl cv) (by rfl) (by rfl) r3 ?_)
      refine HCr.out.mono ?_
      rintro e w4 ⟨rfl, D4, F4⟩
      obtain ⟨base2, P2, Dw4, hPP⟩ : ∃ (base2 : Nat) (P2 : Nat → Prop), Hid (Disk w4 base2 g2 b2 P2 { S with fs := fs2 }) ∧ Hid (∀ j, P2 j → ¬ P j) := ⟨_, _, disk_beside D3.out F4 (fun j hj hp => by have := hPw.out j hp; have := hj.1; omega), fun j hj hp => by have := hPw.out j hp; have := hj.1; omega⟩
      have hB4 : Hid (Below n0 w w4) := hB.out.trans (Dd.Fr.low F4 n0 hn3 (fun j hj => (hD3.out.low j hj).1))
      have hn4 : n0 ≤ w4.heap.size := Nat.le_trans hn3 F4.size
      have hnd : (names S.fs).Nodup := by obtain ⟨_, _, hR⟩ := hD3.out.map; exact hR.nodup
      have hok := hD3.out.ok
      have hkl2 : ∀ s f, seek S.fs s = some f → f.k ≤ f.zs.length := fun s f h => hD3.out.mem.lasts _ (seek_mem h)
      have hkl4 : ∀ s f, seek (crs S ks).fs s = some f → f.k ≤ f.zs.length := fun s f h => D4.mem.lasts _ (seek_mem h)
      have HF := hid (fun i hi => file_at ks Al.out hnd hok hkl2 i hi)
      have hlen : fs2.length = S.fs.length := Al.out.len hnd
      have hl2 : lst fs2 = lst S.fs := lst_same Al.out.nd hnd Al.out.is
      have hl3 : lst (crs S ks).fs = lst S.fs := lst_same (crs_nd hnd ks) hnd (crs_is ks)
      have hlen3 : (crs S ks).fs.length = S.fs.length := by rw [← lst_len, hl3, lst_len]
      have HUs : Hid (used (crs (crs S ks) []).fs ≤ used fs2) := by
        show _ ≤ _
        rw [Al.out.used hnd]
        exact Nat.le_trans (crs_used (crs_nd hnd ks) hkl4 []) (crs_used hnd hkl2 ks)
      have HL1 : Hid (Calls Try.prog 20 #[.pointer (some ⟨g2, 0, none⟩)] w4 fun e w' => ∃ gl cap : Nat, e = .returned (.slice (some ⟨gl, 0, none⟩) S.fs.length cap) ∧ w'.ownsRow w4.heap.size 9 1 (.slice (some ⟨gl, 0, none⟩) S.fs.length cap) S.fs.length ((lst S.fs).map encStr) ∧ Below w4.heap.size w4 w') := by
        have h := list_any w4 Dw4.out
        simp only [hlen, hl2] at h
        exact h
      have HL2 : Hid (∀ W, Below w4.heap.size w4 W → Calls Try.prog 20 #[.pointer (some ⟨g, 0, none⟩)] W fun e w' => ∃ gl cap : Nat, e = .returned (.slice (some ⟨gl, 0, none⟩) S.fs.length cap) ∧ w'.ownsRow W.heap.size 9 1 (.slice (some ⟨gl, 0, none⟩) S.fs.length cap) S.fs.length ((lst S.fs).map encStr) ∧ Below W.heap.size W w') := fun W hW => by
        have h := list_any W (D4.later hW)
        simp only [hlen3, hl3] at h
        exact h
      have hN : Hid (S.fs.length ≤ 4611686018427387904) := by
        show _ ≤ _
        have := hok.len
        omega
      have hlst := lst_len S.fs
      replace D4 := hid D4
      replace hok := hid hok
      replace hnd := hid hnd
      have hkz : Hid (kl = 0 → ∀ i, kpt ks i = 0) := fun h i => by
        have : ks.length = 0 := by rw [← h]; exact K3.out.1
        unfold kpt
        rw [if_pos this]
      clear F4 hl2 hl3 hlen hlen3 hkl2 hkl4 HCr r3 D3 hD3 hB K3 hKs hD Al hgv
      generalize hNN : S.fs.length = N at *
      go_wp2_with fail
      refine HL1.out.mono ?_
      rintro e w5 ⟨gl, cl, rfl, O5, b5⟩
      have HL3 := hid (HL2.out w5 b5)
      clear HL2 HL1
      go_wp2_with fail
      refine HL3.out.mono ?_
      rintro e w6 ⟨gm, cm, rfl, O6, b6⟩
      have hc5 : Hid (N ≤ cl) := by
        rcases O5.2 with ⟨h, _⟩ | ⟨gv, cv, cur, h, _, _, hn, _⟩
        · simp at h
        · simp at h; show _ ≤ _; omega
      have hc6 : Hid (N ≤ cm) := by
        rcases O6.2 with ⟨h, _⟩ | ⟨gv, cv, cur, h, _, _, hn, _⟩
        · simp at h
        · simp at h; show _ ≤ _; omega
      have B46 : Hid (Below w4.heap.size w4 w6) := b5.trans (b6.mono b5.size)
      have C5 : Hid (∀ j, j < N → w6.cell? ⟨gl, j, none⟩ = some (encStr ((lst S.fs).getD j []))) := fun j hj => by
        have hc := World.ownsRow.cellAt O5 j (by omega)
        refine cell_later b6 (hc.trans ?_)
        simp [List.getElem?_map, List.getD_eq_getElem?_getD, List.getElem?_eq_getElem (show j < (lst S.fs).length by omega)]
      have C6 : Hid (∀ j, j < N → w6.cell? ⟨gm, j, none⟩ = some (encStr ((lst S.fs).getD j []))) := fun j hj => by
        have hc := World.ownsRow.cellAt O6 j (by omega)
        refine hc.trans ?_
        simp [List.getElem?_map, List.getD_eq_getElem?_getD, List.getElem?_eq_getElem (show j < (lst S.fs).length by omega)]
      have hn6 : n0 ≤ w6.heap.size := Nat.le_trans hn4 B46.out.size
      obtain ⟨n6, hn6e⟩ : ∃ n6, n6 = w6.heap.size := ⟨_, rfl⟩
      have D6 := hid (D4.out.later B46.out)
      have Dw6 := hid (Dw4.out.later B46.out)
      have hB6 := hid (hB4.out.trans (B46.out.mono hn4))
      have hb66 : Hid (Below n6 w6 w6) := by rw [hn6e]; exact Below.refl _ _
      replace hn6e := hid hn6e
      have hNb := hN.out
      clear O5 O6 b5 b6 HL3 D4 Dw4 B46 hB4
      go_wp2_with fail
      go_loopw [13] (fun iv wr => ∃ i : Nat, iv = .int .i64 (i : Int) ∧ i ≤ N ∧ Hid (Below n6 w6 wr)) (fun iv _ => N - (intOf iv).toNat)
      case atStart => exact ⟨0, rfl, by omega, hb66⟩
      case round =>
        obtain ⟨j, rfl, hj, hbj⟩ := hrel
        have hz6 : n6 ≤ wr.heap.size := by have := hbj.out.size; have := hn6e.out; omega
        have Dr := hid (D6.out.later (by rw [← hn6e.out]; exact hbj.out))
        have Dwr := hid (Dw6.out.later (by rw [← hn6e.out]; exact hbj.out))
        by_cases hlt : j < N
        · obtain ⟨nm, f, sl, hnm1, hnm2, hkf, huf, e1, e2⟩ := HF.out j hlt
          have HQ1 : Hid (∀ W, Below wr.heap.size wr W → W.cell? ⟨gl, j, none⟩ = some (.string nm)) := fun W hW => by
            rw [← hnm1]; exact cell_later hW (cell_later (by rw [← hn6e.out]; exact hbj.out) (C5.out j hlt))
          have HQ2 : Hid (∀ W, Below wr.heap.size wr W → W.cell? ⟨gm, j, none⟩ = some (.string nm)) := fun W hW => by
            rw [← hnm1]; exact cell_later hW (cell_later (by rw [← hn6e.out]; exact hbj.out) (C6.out j hlt))
          have HB1 : Hid (∀ W, Below wr.heap.size wr W → Calls Try.prog 25 #[.pointer (some ⟨g2, 0, none⟩), .string nm] W fun e w' => e = .returned (.string (str f.zs)) ∧ Below W.heap.size W w') := fun W hW => by
            have h := bytes_any nm hnm2 W (Dwr.out.later hW) (by rw [e1])
            rw [e1] at h; exact h
          have HB2 : Hid (∀ W, Below wr.heap.size wr W → Calls Try.prog 25 #[.pointer (some ⟨g, 0, none⟩), .string nm] W fun e w' => e = .returned (.string (str (f.zs.take (sty f.zs.length f.k (kpt ks j))))) ∧ Below W.heap.size W w') := fun W hW => by
            have h := bytes_any nm hnm2 W (Dr.out.later hW) (by rw [e2])
            rw [e2] at h; exact h
          have HZ1 : Hid (∀ W, Below wr.heap.size wr W → Calls Try.prog 19 #[.pointer (some ⟨g2, 0, none⟩), .string nm] W fun e w' => e = .returned (.tuple #[.int .i64 (f.zs.length : Nat), .int .i64 (f.k : Nat), .int .i64 0]) ∧ Below W.heap.size W w') := fun W hW => by
            have h := Bc.size_any nm hnm2 W (Dwr.out.later hW)
            rw [e1] at h; exact h
          obtain ⟨hs1, hs2⟩ := @sty_le f.zs.length f.k (kpt ks j) hkf
          have hs3 : kl = 0 → sty f.zs.length f.k (kpt ks j) = f.k := fun h => by rw [hkz.out h j]; rfl
          have HZ2 : Hid (∀ W, Below wr.heap.size wr W → Calls Try.prog 19 #[.pointer (some ⟨g, 0, none⟩), .string nm] W fun e w' => e = .returned (.tuple #[.int .i64 ((sty f.zs.length f.k (kpt ks j) : Nat) : Int), .int .i64 ((sty f.zs.length f.k (kpt ks j) : Nat) : Int), .int .i64 0]) ∧ Below W.heap.size W w') := fun W hW => by
            have h := Bc.size_any nm hnm2 W (Dr.out.later hW)
            rw [e2] at h
            have hl : (cutF f (kpt ks j)).zs.length = sty f.zs.length f.k (kpt ks j) := by show (f.zs.take _).length = _; rw [List.length_take]; omega
            rw [hl] at h
            exact h
          have hst := str_take f.zs _ hs2
          have hza := str_size f.zs
          have hzb : (str (f.zs.take (sty f.zs.length f.k (kpt ks j)))).size = sty f.zs.length f.k (kpt ks j) := by rw [str_size, List.length_take]; omega
          have hs2 : sty f.zs.length f.k (kpt ks j) ≤ (str f.zs).size := by rw [hza]; exact hs2
          have huf2 : f.zs.length ≤ 9223372036854775807 := by have := hok.out.used; omega
          clear e1 e2 hnm1 Dr Dwr
          generalize sty f.zs.length f.k (kpt ks j) = m at *
          generalize str (f.zs.take m) = sb at *
          generalize str f.zs = sa at *
          generalize f.zs.length = n at *
          generalize f.k = k at *
          subst hzb
          have jj : (j : Int) < (N : Int) := by omega
          have d1 : decide ((sb.size : Int) < (k : Int)) = false := decide_eq_false (by omega)
          have d2 : decide ((sa.size : Int) < (sb.size : Int)) = false := decide_eq_false (by omega)
          have hc5 := hc5.out
          have hc6 := hc6.out
          have HDN : Hid (∀ (W : World) (n : Nat), Below n6 w6 W → Below n6 w6 (W.drewN n)) := fun W n h => ⟨h.os, h.tape, h.output, h.size, h.block⟩
          go_wp2_with fail
          refine wp_region_held_drew (S := fun W => Below wr.heap.size wr W) (by kernel_rfl) ((Below.refl _ _).drew) (fun hS => ?_)
          generalize World.drew wr = D at *
          refine wpAnyH_take (i := 0) (v := ?v1) rfl (by kernel_rfl) (by kernel_rfl) (by kernel_rfl) (fun _ _ _ h => h) (Or.inl ⟨by rfl, ?h1⟩) hS ?_
          case h1 => (intro W hW; go_simp; try (with_reducible rfl))
          go_simp
          refine wpAnyH_take (i := 1) (v := ?v2) rfl (by kernel_rfl) (by kernel_rfl) (by kernel_rfl) (fun _ _ _ h => h) (Or.inl ⟨by rfl, ?h2⟩) hS ?_
          case h2 => (intro W hW; go_simp; try (with_reducible rfl))
          go_simp
          refine wpAnyH_take (i := 2) (v := ?v3) rfl (by kernel_rfl) (by kernel_rfl) (by kernel_rfl) (fun _ _ _ h => h) (Or.inl ⟨by rfl, ?h3⟩) hS ?_
          case h3 => (intro W hW; go_simp; try (with_reducible rfl))
          go_simp
          refine wpAnyH_take (i := 3) (v := ?v4) rfl (by kernel_rfl) (by kernel_rfl) (by kernel_rfl) (fun _ _ _ h => h) (Or.inl ⟨by rfl, ?h4⟩) hS ?_
          case h4 => (intro W hW; go_simp; try (with_reducible rfl))
          go_simp
          refine wpAnyH_take (i := 4) (v := ?v5) rfl (by kernel_rfl) (by kernel_rfl) (by kernel_rfl) (fun _ _ _ h => h) (Or.inl ⟨by rfl, ?h5⟩) hS ?_
          case h5 => (intro W hW; have q1 := HQ1.out W hW; go_simp; try (with_reducible rfl))
          go_simp
          refine wpAnyH_take (i := 6) (v := ?v6) rfl (by kernel_rfl) (by kernel_rfl) (by kernel_rfl) (fun _ _ _ h => h) (Or.inl ⟨by rfl, ?h6⟩) hS ?_
          case h6 => (intro W hW; go_simp; try (with_reducible rfl))
          go_simp
          refine wpAnyH_take (i := 7) (v := ?v7) rfl (by kernel_rfl) (by kernel_rfl) (by kernel_rfl) (fun _ _ _ h => h) (Or.inl ⟨by rfl, ?h7⟩) hS ?_
          case h7 => (intro W hW; go_simp; try (with_reducible rfl))
          go_simp
          refine wpAnyH_take (i := 8) (v := ?v8) rfl (by kernel_rfl) (by kernel_rfl) (by kernel_rfl) (fun _ _ _ h => h) (Or.inl ⟨by rfl, ?h8⟩) hS ?_
          case h8 => (intro W hW; go_simp; try (with_reducible rfl))
          go_simp
          refine wpAnyH_take (i := 9) (v := ?v9) rfl (by kernel_rfl) (by kernel_rfl) (by kernel_rfl) (fun _ _ _ h => h) (Or.inl ⟨by rfl, ?h9⟩) hS ?_
          case h9 => (intro W hW; go_simp; try (with_reducible rfl))
          go_simp
          refine wpAnyH_take (i := 10) (v := ?v10) rfl (by kernel_rfl) (by kernel_rfl) (by kernel_rfl) (fun _ _ _ h => h) (Or.inl ⟨by rfl, ?h10⟩) hS ?_
          case h10 => (intro W hW; have q1 := HQ1.out W hW; go_simp; try (with_reducible rfl))
          go_simp
          refine wpAnyH_ready (rs := [5]) (by kernel_rfl) (by simp) ?_
          refine AllReadyH.cons rfl (fun K hK => ?_) ?_
          · go_simp
            go_wp2_with fail
            refine (HB1.out _ hS).mono ?_
            rintro e y5 ⟨rfl, c5⟩
            refine hK.out _ _ (hS.trans (c5.mono hS.size)) (fun hS => ?_)
            clear hK K c5
            refine wpAnyH_ready (rs := [11]) (by kernel_rfl) (by simp) ?_
            refine AllReadyH.cons rfl (fun K hK => ?_) ?_
            · go_simp
              go_wp2_with fail
              refine (HB2.out _ hS).mono ?_
              rintro e y11 ⟨rfl, c11⟩
              refine hK.out _ _ (hS.trans (c11.mono hS.size)) (fun hS => ?_)
              clear hK K c11
              refine wpAnyH_take (i := 12) (v := ?v11) rfl (by kernel_rfl) (by kernel_rfl) (by kernel_rfl) (fun _ _ _ h => h) (Or.inl ⟨by rfl, ?h11⟩) hS ?_
              case h11 => (intro W hW; go_simp; try (with_reducible rfl))
              go_simp
              refine wpAnyH_take (i := 13) (v := ?v12) rfl (by kernel_rfl) (by kernel_rfl) (by kernel_rfl) (fun _ _ _ h => h) (Or.inl ⟨by rfl, ?h12⟩) hS ?_
              case h12 => (intro W hW; go_simp; try (with_reducible rfl))
              go_simp
              refine wpAnyH_done (by kernel_rfl) ?_ _
              have HZ3 := hid (HZ1.out _ hS)
              have q1 := HQ1.out _ hS
              go_wp2_with fail
              refine HZ3.out.mono ?_
              rintro e z1 ⟨rfl, cz1⟩
              have hS1 := hS.trans (cz1.mono hS.size)
              have HZ4 := hid (HZ2.out _ hS1)
              have q1 := HQ1.out _ hS1
              replace hS := hid hS1
              clear cz1 HZ3 HZ1 HZ2 HB1 HB2
              go_wp2_with fail
              refine HZ4.out.mono ?_
              rintro e z2 ⟨rfl, cz2⟩
              have hS2 := hS.out.trans (cz2.mono hS.out.size)
              have q1 := HQ1.out _ hS2
              have q2 := HQ2.out _ hS2
              have hbz := hid (hbj.out.trans (hS2.mono hz6))
              clear cz2 HZ4 HQ1 HQ2 hS hS1 hS2
              replace hs3 := hid hs3
              go_wp2_with fail
              go_quiet (fail)
              have hbq : Hid (Below n6 w6 (z2.drewN nq)) := by
                show Below _ _ _
                exact HDN.out _ _ hbz.out
              generalize z2.drewN nq = z3 at *
              have hjn : j + 1 ≤ N := hlt
              by_cases hk0 : kl = 0
              · have e5 : (sb.size : Int) = (k : Int) := by have := hs3.out hk0; omega
                subst hk0
                clear d1 d2 hst
                go_wp2_with fail
                exact ⟨⟨j + 1, by go_num, hjn, hbq⟩, by simp [intOf]; omega⟩
              · have e1 : ¬ (kl : Int) = 0 := by omega
                go_wp2_with fail
                exact ⟨⟨j + 1, by go_num, hjn, hbq⟩, by simp [intOf]; omega⟩

            exact AllReadyH.nil
          exact AllReadyH.nil
        · have ej : j = N := by omega
          subst ej
          have jj : ¬ (j : Int) < (j : Int) := by omega
          have HC7 := hid (crash_any none 0 0 [] wr Dr.out (ints_nil _) (by omega) (fun x hx h => by omega))
          go_wp2_with fail
          refine HC7.out.mono ?_
          rintro e w7 ⟨rfl, D7, F7⟩
          have HU1 := hid (used_any w7 D7)
          have HU2 := hid (fun W (h : Below w7.heap.size w7 W) => used_any W ((disk_beside Dwr.out F7 hPP.out).later h))
          have hB7 : Hid (Below n0 w w7) := (hB6.out.trans (hbj.out.mono (by have := hn6e.out; omega))).trans (Dd.Fr.low F7 n0 (by have := hn6e.out; omega) (fun j hj => (D6.out.low j hj).1))
          have hn7 : n0 ≤ w7.heap.size := by have := F7.size; have := hn6e.out; omega
          clear D7 F7 HC7
          go_wp2_with fail
          refine HU1.out.mono ?_
          rintro e w8 ⟨rfl, b8⟩
          have HU3 := hid (HU2.out w8 b8)
          have hB8 := hid (hB7.out.trans (b8.mono hn7))
          have hn8 : n0 ≤ w8.heap.size := by have := b8.size; omega
          clear HU2 HU1 b8
          go_wp2_with fail
          refine HU3.out.mono ?_
          rintro e w9 ⟨rfl, b9⟩
          have hB9 := hid (hB8.out.trans (b9.mono hn8))
          clear b9 HU3
          have huu : used (crs (crs S ks) []).fs ≤ used fs2 := HUs.out
          generalize used (crs (crs S ks) []).fs = ua at *
          generalize used fs2 = ub at *
          go_wp2_with fail
          go_ret
          exact ⟨by first | rfl | (simp [huu]), by rw [← hn0.out]; exact hB9.out⟩
end Go.Proofs.Ytgffojafdjcdoaa.Ll
