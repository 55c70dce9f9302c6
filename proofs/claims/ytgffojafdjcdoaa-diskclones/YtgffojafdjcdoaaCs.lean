/- Crash. -/
import Derived.Test.YtgffojafdjcdoaaCr
import Derived.Test.YtgffojafdjcdoaaLt
import Derived.Test.YtgffojafdjcdoaaAc
namespace Go.Proofs.Ytgffojafdjcdoaa.Cs
open Go.ChangeShapes Go.WideShapes Go.ChangeAt Go.RowKit Go.Maps
open Go.Proofs (encStr)
open Go.Proofs.Ytgffojafdjcdoaa.By
open Go.Proofs.Ytgffojafdjcdoaa.Ln
open Go.Proofs.Ytgffojafdjcdoaa.Mp
open Go.Proofs.Ytgffojafdjcdoaa.Dk
open Go.Proofs.Ytgffojafdjcdoaa.Df
open Go.Proofs.Ytgffojafdjcdoaa.Dg
open Go.Proofs.Ytgffojafdjcdoaa.Dh
open Go.Proofs.Ytgffojafdjcdoaa.Di
open Go.Proofs.Ytgffojafdjcdoaa.Us
open Go.Proofs.Ytgffojafdjcdoaa.Lt
open Go.Proofs.Ytgffojafdjcdoaa.Ap
open Go.Proofs.Ytgffojafdjcdoaa.Cr
open Go.Proofs.Ytgffojafdjcdoaa.Ac (Ints)
set_option linter.unusedVariables false
set_option linter.unusedSimpArgs false

def cutSl (v : Value) (m : Nat) : Value := match v with | .slice a _ c => .slice a m c | v => v
def cutF (f : Fl) (x : Int) : Fl := ⟨cutSl f.sl (sty f.zs.length f.k x), f.zs.take (sty f.zs.length f.k x), sty f.zs.length f.k x⟩
def cutAt (fs : Fs) (s : K) (x : Int) : Fs := match seek fs s with | some f => put fs s (cutF f x) | none => fs
/-- How many bytes of the i-th file's tail are to stay. -/
def kpt (ks : List Int) (i : Nat) : Int := if ks.length = 0 then 0 else ks.getD (i % ks.length) 0
/-- The files behind j rounds. -/
def cst (fs : Fs) (ks : List Int) : Nat → Fs
  | 0 => fs
  | j + 1 => cutAt (cst fs ks j) ((lst fs).getD j []) (kpt ks j)
/-- What a crash leaves. -/
def crs (S : St) (ks : List Int) : St := { S with fs := cst S.fs ks S.fs.length, af := 0, ct := 0 }
theorem seek_cut (fs : Fs) (s t : K) (x : Int) : (seek (cutAt fs s x) t).isSome = (seek fs t).isSome := by
  unfold cutAt
  cases h : seek fs s with
  | none => rfl
  | some f =>
    by_cases e : t = s
    · subst e; rw [seek_put_same, h]; rfl
    · rw [seek_put_other _ e]
theorem seek_cst (fs : Fs) (ks : List Int) (j : Nat) (t : K) : (seek (cst fs ks j) t).isSome = (seek fs t).isSome := by
  induction j with
  | zero => rfl
  | succ j ih => unfold cst; rw [seek_cut, ih]
theorem seek_name {fs : Fs} {s : K} (h : s ∈ names fs) : ∃ f, seek fs s = some f := by
  cases hl : seek fs s with
  | some f => exact ⟨f, rfl⟩
  | none =>
    obtain ⟨p, hp, e⟩ := List.mem_map.1 h
    exact absurd e (seek_none hl p hp)
theorem lst_mem {fs : Fs} {s : K} : s ∈ lst fs ↔ s ∈ names fs := (List.mergeSort_perm _ _).mem_iff
theorem lst_len (fs : Fs) : (lst fs).length = fs.length := by
  unfold lst
  rw [List.length_mergeSort]
  simp [names]
theorem own_take {w : World} {base : Nat} {f : Fl} (h : ownB w base f) {m : Nat} (hm : m ≤ f.zs.length) (k : Nat) : ownB w base ⟨cutSl f.sl m, f.zs.take m, k⟩ := by
  obtain ⟨h1, h2⟩ := h
  refine ⟨by simp, ?_⟩
  have hl : (f.zs.take m).length = m := by rw [List.length_take]; omega
  simp only [hl]
  rcases h2 with ⟨e, h0⟩ | ⟨g, cap, cur, e, hb, hg, hn, hc, hs, ht⟩
  · left
    have : m = 0 := by omega
    subst this
    rw [e]
    exact ⟨rfl, rfl⟩
  · right
    refine ⟨g, cap, cur, by rw [e]; rfl, hb, hg, by omega, hc, hs, ?_⟩
    rw [List.map_take, ← ht, List.take_take]
    congr 1
    omega
theorem cut_own (v : Value) (m : Nat) : (cutSl v m).ownBlock = v.ownBlock := by
  unfold cutSl
  split
  · rename_i a _ c
    cases a <;> rfl
  · rfl
theorem bytesOf (s : K) : (⟨s.toArray⟩ : ByteArray).data.toList = s := by simp
theorem ints_fr {P : Nat → Prop} {w w' : World} (h : Fr P w w') {a : Option Addr} {len cap : Nat} {zs : List Int} (H : Ints w a len cap zs) (hp : ∀ x, a = some x → 0 < len → ¬ P x.block) : Ints w' a len cap zs :=
  ⟨H.1, H.2.1, H.2.2.1, H.2.2.2.1, fun x hx i hi => Fr.cell h (H.2.2.2.2 x hx i hi) (by
    have e : (x.add i).block = x.block := by unfold Addr.add; split <;> rfl
    rw [e]
    exact hp x hx (by omega))⟩
theorem used_cut {fs : Fs} {s : K} {f : Fl} {x : Int} (hn : (names fs).Nodup) (h : seek fs s = some f) (hk : f.k ≤ f.zs.length) : used (put fs s (cutF f x)) ≤ used fs := by
  have h1 := @used_put fs s (cutF f x) f hn h
  have h2 := (@sty_le f.zs.length f.k x hk).2
  have h3 : (cutF f x).zs.length ≤ f.zs.length := by unfold cutF; simp; exact Nat.min_le_right _ _
  omega
set_option maxRecDepth 100000 in
set_option maxHeartbeats 4000000 in
theorem crash_any {base g b : Nat} {P : Nat → Prop} {S : St} (ka : Option Addr) (kl kc : Nat) (ks : List Int) (w : World) (H : Disk w base g b P S) (HK : Ints w ka kl kc ks) (hkl : kl ≤ 140737488351232) (hkp : ∀ x, ka = some x → 0 < kl → ¬ P x.block) :
    Calls Try.prog 24 #[.pointer (some ⟨g, 0, none⟩), .slice ka kl kc] w fun e w' => e = .returned (.int .i64 0) ∧ Disk w' base g b P (crs S ks) ∧ Fr P w w' := by
  rcases Nat.eq_zero_or_pos kl with rfl | hpos
  · have HH := hid H
    have HI := hid HK
    have HKP := hid hkp
    have hlen := H.ok.len
    have hkc := HK.2.1
    clear HK hkp H
    go_enter Try.func24, Try.ntmps24
    go_wp2_with fail
    refine (isnone_any w HH.out).mono ?_
    rintro e w0 ⟨rfl, hww⟩
    subst hww
    go_wp2_with fail
    refine (list_any w0 HH.out).mono ?_
    rintro e wl ⟨gl, cap, rfl, hrow, bl⟩
    have Dl := hid (HH.out.later bl)
    have Fl0 := hid ((Fr.refl P w0).below bl)
    have HIl := hid (Ac.ints_later HI.out bl)
    have hcellL : Hid (∀ j, j < S.fs.length → wl.cell? ⟨gl, j, none⟩ = some (encStr ((lst S.fs).getD j []))) := fun j hj => by
      rw [World.ownsRow.cellAt hrow j (by omega), List.getElem?_map, List.getD_eq_getElem?_getD, List.getElem?_eq_getElem (by rw [lst_len]; exact hj)]
      rfl
    have hcap : S.fs.length ≤ cap := by
      rcases hrow.2 with ⟨e, _⟩ | ⟨g', cap', cur, e, _, _, hn, _⟩
      · simp at e
      · simp at e; omega
    have hglP : Hid (¬ P gl) := fun h => by
      have h1 := HH.out.plow gl h
      have h2 := (World.ownsRow.lt hrow gl rfl).1
      omega
    clear hrow bl
    go_wp2_with fail
    go_loopw [13] (fun i wr => ∃ j : Nat, i = .int .i64 j ∧ j ≤ S.fs.length ∧ Hid (Disk wr base g b P { S with fs := cst S.fs ks j }) ∧ Hid (Fr P wl wr)) (fun i _ => S.fs.length - (intOf i).toNat)
    case atStart => exact ⟨0, rfl, by omega, Dl, hid (Fr.refl P wl)⟩
    case round =>
      obtain ⟨j, rfl, hj, D, F⟩ := hrel
      by_cases hlt : j < S.fs.length
      · have ilt : (j : Int) < (S.fs.length : Int) := by omega
        have hname : Hid ((lst S.fs).getD j [] ∈ names S.fs) := lst_mem.1 (by
          rw [List.getD_eq_getElem?_getD, List.getElem?_eq_getElem (by rw [lst_len]; exact hlt)]
          exact List.getElem_mem _)
        obtain ⟨s, hs⟩ : ∃ s, s = (lst S.fs).getD j [] := ⟨_, rfl⟩
        have l0 : wr.cell? ⟨gl, j, none⟩ = some (.string ⟨s.toArray⟩) := by rw [hs]; exact Fr.cell F.out (hcellL.out j hlt) hglP.out
        obtain ⟨f, hf⟩ := seek_name (show s ∈ names S.fs by rw [hs]; exact hname.out)
        obtain ⟨f, hf⟩ : ∃ f, seek (cst S.fs ks j) s = some f := by
          have := seek_cst S.fs ks j s
          rw [hf] at this
          exact Option.isSome_iff_exists.1 this
        have hmem := seek_mem hf
        have hnm := D.out.ok.name _ hmem
        have hb64 : 1 ≤ (⟨s.toArray⟩ : ByteArray).size ∧ (⟨s.toArray⟩ : ByteArray).size ≤ 64 := by
          have e : (⟨s.toArray⟩ : ByteArray).size = s.length := by show s.toArray.size = _; simp
          rw [e]; exact hnm
        have hla := D.out.mem.lasts _ hmem
        have hfu := used_mem hmem
        have hus := D.out.ok.used
        have hrow := D.out.mem.row _ hmem
        obtain ⟨a, c, hsl⟩ := Df.shape hrow
        simp only at hla hfu hus hsl
        have hac : (a = none → f.zs.length = 0 ∧ c = 0) ∧ f.zs.length ≤ c := by
          rcases hrow.2 with ⟨e, h0⟩ | ⟨g', cap', cur, e, _, _, hn, _⟩
          · simp only at e h0; rw [hsl] at e; simp at e; exact ⟨fun _ => ⟨h0, e.2.2⟩, by omega⟩
          · simp only at e hn; rw [hsl] at e; simp at e; exact ⟨fun h => by rw [e.1] at h; simp at h, by rw [e.2]; exact hn⟩
        have hval : f.val = .agg #[.slice a f.zs.length c, .int .i64 f.k] := by rw [← hsl]; rfl
        have DD := D.out.later (below_drew wr)
        have hLk := DD.run_look ⟨s.toArray⟩ hb64.2 false
        rw [bytesOf, show seek ({ S with fs := cst S.fs ks j } : St).fs s = some f from hf] at hLk
        simp only [Option.map_some, Option.getD_some, hval] at hLk
        have hLk : Sem.run Try.prog (Instr.lookup 46 (.map (some b)) (.string ⟨s.toArray⟩) false) wr.drew = .ok (.agg #[.slice a f.zs.length c, .int .i64 f.k]) wr.drew := by rw [hLk]; simp
        have c0 : wr.drew.cell? ⟨g, 0, none⟩ = some (.map (some b)) := DD.cell 0
        have hkx : -9223372036854775808 ≤ kpt ks j ∧ kpt ks j ≤ 9223372036854775807 := by
          unfold kpt
          split
          · omega
          · rename_i h0
            have hm : j % ks.length < ks.length := Nat.mod_lt _ (by omega)
            rw [List.getD_eq_getElem?_getD, List.getElem?_eq_getElem hm]
            exact HI.out.2.2.2.1 _ (List.getElem_mem _)
        have HC := hid (crashed_any a f.zs.length c f.k (kpt ks j) hkx hla hac.2 (by omega) hac.1)
        have hM : sty f.zs.length f.k (kpt ks j) = (cutF f (kpt ks j)).k := rfl
        have hM1 := @sty_le f.zs.length f.k (kpt ks j) hla
        have hcF : (cutF f (kpt ks j)).val = .agg #[.slice a (sty f.zs.length f.k (kpt ks j)) c, .int .i64 (sty f.zs.length f.k (kpt ks j) : Nat)] := by unfold cutF Fl.val; rw [hsl]; rfl
        have hST : Hid (∀ W, Below wr.heap.size wr W → ∃ w', (Instr.mapUpdate 46 (.map (some b)) (.string ⟨s.toArray⟩) (.agg #[.slice a (sty f.zs.length f.k (kpt ks j)) c, .int .i64 (sty f.zs.length f.k (kpt ks j) : Nat)])).run Try.prog W = .ok () w' ∧ Disk w' base g b P { S with fs := cst S.fs ks (j + 1) } ∧ Fr P wl w') := fun W bW => by
          have DW := D.out.later bW
          have hmW := DW.mem.row _ hmem
          obtain ⟨w', h1, h2, h3, _⟩ := DW.run_store (Kp.refl P W none) (by simp) (by simp) ⟨s.toArray⟩ hb64 (cutF f (kpt ks j))
            (fun p hp hne i hi => ⟨by simp, fun e => by
              rw [bytesOf] at hne
              unfold cutF at e
              rw [cut_own] at e
              exact hne (DW.mem.apart p hp _ hmem i hi e)⟩)
            (own_take hmW hM1.2 _) (fun y hy => DW.mem.bytes _ hmem y (List.mem_of_mem_take hy)) (by unfold cutF; simp; omega)
            (by rw [bytesOf, len_put (nodup DW) hf]; exact DW.ok.len) (by rw [bytesOf]; have := @used_cut _ _ _ (kpt ks j) (nodup DW) hf hla; simp only at this ⊢; omega) (fun _ h => h) (fun i hi => by unfold cutF at hi; rw [cut_own] at hi; exact DW.mem.mem _ hmem i hi) DW.low
          rw [hcF] at h1
          refine ⟨w', h1, ?_, (F.out.below bW).grown h3 (fun i hi => .inl (by cases hi; exact D.out.pb))⟩
          have e : cst S.fs ks (j + 1) = put (cst S.fs ks j) s (cutF f (kpt ks j)) := by
            show cutAt (cst S.fs ks j) ((lst S.fs).getD j []) (kpt ks j) = _
            rw [← hs]
            unfold cutAt
            rw [hf]
          rw [e]
          rw [bytesOf] at h2
          exact h2
        have hmz := hid hM1
        have hmod : Hid (0 < ks.length → ((j % ks.length : Nat) : Int) = (j : Int) % (ks.length : Int)) := fun h => by omega
        have HFr := F
        have hIr := hid (ints_fr F.out HIl.out HKP.out)
        generalize sty f.zs.length f.k (kpt ks j) = M at *
        generalize hfn : f.zs.length = n at *
        generalize hfk : f.k = k at *
        clear hM hM1 hcF hs hf hmem hnm hla hfu hus hrow hsl hac hval DD hname
        have hz : kpt ks j = 0 := by unfold kpt; rw [if_pos HI.out.1]
        rw [hz] at HC
        clear hkx hmod hIr
        go_wp2_with fail
        refine wp_region_any (by kernel_rfl) ?_
        change wpAny _ _ _ _ _ _ _ (World.drew _)
        refine wpAny_take (i := 0) (v := ?v1) rfl (by kernel_rfl) (by kernel_rfl) (by kernel_rfl) (fun _ _ _ h => h) (Or.inl ⟨by rfl, ?h1⟩) ?_
        case h1 => (intro w; go_simp; try (with_reducible rfl))
        go_simp
        refine wpAny_take (i := 1) (v := ?v2) rfl (by kernel_rfl) (by kernel_rfl) (by kernel_rfl) (fun _ _ _ h => h) (Or.inl ⟨by rfl, ?h2⟩) ?_
        case h2 => (intro w; go_simp; try (with_reducible rfl))
        go_simp
        refine wpAny_take (i := 2) (v := ?v3) rfl (by kernel_rfl) (by kernel_rfl) (by kernel_rfl) (fun _ _ _ h => h) (Or.inl ⟨by rfl, ?h3⟩) ?_
        case h3 => (intro w; go_simp; try (with_reducible rfl))
        go_simp
        refine wpAny_take (i := 4) (v := ?v4) rfl (by kernel_rfl) (by kernel_rfl) (by kernel_rfl) (fun _ _ _ h => h) (Or.inl ⟨by rfl, ?h4⟩) ?_
        case h4 => (intro w; go_simp; try (with_reducible rfl))
        go_simp
        refine wpAny_take (i := 5) (v := ?v5) rfl (by kernel_rfl) (by kernel_rfl) (by kernel_rfl) (fun _ _ _ h => h) (Or.inl ⟨by rfl, ?h5⟩) ?_
        case h5 => (intro w; go_simp; try (with_reducible rfl))
        go_simp
        refine wpAny_take (i := 6) (v := ?v6) rfl (by kernel_rfl) (by kernel_rfl) (by kernel_rfl) (fun _ _ _ h => h) (Or.inl ⟨by rfl, ?h6⟩) ?_
        case h6 => (intro w; go_simp; try (with_reducible rfl))
        go_simp
        refine wpAny_take (i := 7) (v := ?v7) rfl (by kernel_rfl) (by kernel_rfl) (by kernel_rfl) (fun _ _ _ h => h) (Or.inl ⟨by rfl, ?h7⟩) ?_
        case h7 => (intro w; go_simp; try (with_reducible rfl))
        go_simp
        refine wpAny_take (i := 9) (v := ?v8) rfl (by kernel_rfl) (by kernel_rfl) (by kernel_rfl) (fun _ _ _ h => h) (Or.inl ⟨by rfl, ?h8⟩) ?_
        case h8 => (intro w; go_simp; try (with_reducible rfl))
        go_simp
        refine wpAny_take (i := 11) (v := ?v9) rfl (by kernel_rfl) (by kernel_rfl) (by kernel_rfl) (fun _ _ _ h => h) (Or.inl ⟨by rfl, ?h9⟩) ?_
        case h9 => (intro w; go_simp; try (with_reducible rfl))
        go_simp
        refine wpAny_ready (rs := [3, 8]) (by kernel_rfl) (by simp) ?_
        refine AllReady.cons rfl (fun K hK => ?_) ?_
        · go_simp
          refine hK _ _ ?_
          clear hK K
          refine wpAny_ready (rs := [8]) (by kernel_rfl) (by simp) ?_
          refine AllReady.cons rfl (fun K hK => ?_) ?_
          · go_simp
            refine hK _ _ ?_
            clear hK K
            refine wpAny_ready (rs := [10]) (by kernel_rfl) (by simp) ?_
            refine AllReady.cons rfl (fun K hK => ?_) ?_
            · go_simp
              refine hK _ _ ?_
              clear hK K
              refine wpAny_ready (rs := [12]) (by kernel_rfl) (by simp) ?_
              refine AllReady.cons rfl (fun K hK => ?_) ?_
              · go_simp
                go_wp2_with fail
                refine (HC.out _).mono ?_
                rintro e w3 ⟨rfl, b3⟩
                have b3' : Below wr.heap.size wr w3 := (below_drew wr).trans b3
                obtain ⟨w4, hst, D4, F4⟩ := hST.out w3 b3'
                have c3 : w3.cell? ⟨g, 0, none⟩ = some (.map (some b)) := (D.out.later b3').cell 0
                have D4 := hid D4
                have F4 := hid F4
                clear b3 b3'
                go_wp2_with fail
                refine wpAny_ready (rs := [13]) (by kernel_rfl) (by simp) ?_
                refine AllReady.cons rfl (fun K hK => ?_) ?_
                · go_simp
                  refine hK _ _ ?_
                  clear hK K
                  refine wpAny_done (by kernel_rfl) ?_ _
                  clear c0 c3 hLk hst
                  go_wp2_with fail
                  go_roundw
                  case rel => exact ⟨j + 1, by go_num, by omega, D4, F4⟩
                  case measure => simp [intOf]; omega
                exact AllReady.nil
              exact AllReady.nil
            exact AllReady.nil
          exact AllReady.nil
        refine AllReady.cons rfl (fun K hK => ?_) ?_
        · go_simp
          refine hK _ _ ?_
          clear hK K
          refine wpAny_ready (rs := [3, 10]) (by kernel_rfl) (by simp) ?_
          refine AllReady.cons rfl (fun K hK => ?_) ?_
          · go_simp
            refine hK _ _ ?_
            clear hK K
            refine wpAny_ready (rs := [10]) (by kernel_rfl) (by simp) ?_
            refine AllReady.cons rfl (fun K hK => ?_) ?_
            · go_simp
              refine hK _ _ ?_
              clear hK K
              refine wpAny_ready (rs := [12]) (by kernel_rfl) (by simp) ?_
              refine AllReady.cons rfl (fun K hK => ?_) ?_
              · go_simp
                go_wp2_with fail
                refine (HC.out _).mono ?_
                rintro e w3 ⟨rfl, b3⟩
                have b3' : Below wr.heap.size wr w3 := (below_drew wr).trans b3
                obtain ⟨w4, hst, D4, F4⟩ := hST.out w3 b3'
                have c3 : w3.cell? ⟨g, 0, none⟩ = some (.map (some b)) := (D.out.later b3').cell 0
                have D4 := hid D4
                have F4 := hid F4
                clear b3 b3'
                go_wp2_with fail
                refine wpAny_ready (rs := [13]) (by kernel_rfl) (by simp) ?_
                refine AllReady.cons rfl (fun K hK => ?_) ?_
                · go_simp
                  refine hK _ _ ?_
                  clear hK K
                  refine wpAny_done (by kernel_rfl) ?_ _
                  clear c0 c3 hLk hst
                  go_wp2_with fail
                  go_roundw
                  case rel => exact ⟨j + 1, by go_num, by omega, D4, F4⟩
                  case measure => simp [intOf]; omega
                exact AllReady.nil
              exact AllReady.nil
            exact AllReady.nil
          refine AllReady.cons rfl (fun K hK => ?_) ?_
          · go_simp
            refine hK _ _ ?_
            clear hK K
            refine wpAny_ready (rs := [3, 12]) (by kernel_rfl) (by simp) ?_
            refine AllReady.cons rfl (fun K hK => ?_) ?_
            · go_simp
              refine hK _ _ ?_
              clear hK K
              refine wpAny_ready (rs := [12]) (by kernel_rfl) (by simp) ?_
              refine AllReady.cons rfl (fun K hK => ?_) ?_
              · go_simp
                go_wp2_with fail
                refine (HC.out _).mono ?_
                rintro e w3 ⟨rfl, b3⟩
                have b3' : Below wr.heap.size wr w3 := (below_drew wr).trans b3
                obtain ⟨w4, hst, D4, F4⟩ := hST.out w3 b3'
                have c3 : w3.cell? ⟨g, 0, none⟩ = some (.map (some b)) := (D.out.later b3').cell 0
                have D4 := hid D4
                have F4 := hid F4
                clear b3 b3'
                go_wp2_with fail
                refine wpAny_ready (rs := [13]) (by kernel_rfl) (by simp) ?_
                refine AllReady.cons rfl (fun K hK => ?_) ?_
                · go_simp
                  refine hK _ _ ?_
                  clear hK K
                  refine wpAny_done (by kernel_rfl) ?_ _
                  clear c0 c3 hLk hst
                  go_wp2_with fail
                  go_roundw
                  case rel => exact ⟨j + 1, by go_num, by omega, D4, F4⟩
                  case measure => simp [intOf]; omega
                exact AllReady.nil
              exact AllReady.nil
            refine AllReady.cons rfl (fun K hK => ?_) ?_
            · go_simp
              go_wp2_with fail
              refine (HC.out _).mono ?_
              rintro e w3 ⟨rfl, b3⟩
              have b3' : Below wr.heap.size wr w3 := (below_drew wr).trans b3
              obtain ⟨w4, hst, D4, F4⟩ := hST.out w3 b3'
              have c3 : w3.cell? ⟨g, 0, none⟩ = some (.map (some b)) := (D.out.later b3').cell 0
              have D4 := hid D4
              have F4 := hid F4
              clear b3 b3'
              go_wp2_with fail
              refine wpAny_ready (rs := [3]) (by kernel_rfl) (by simp) ?_
              refine AllReady.cons rfl (fun K hK => ?_) ?_
              · go_simp
                refine hK _ _ ?_
                clear hK K
                refine wpAny_ready (rs := [13]) (by kernel_rfl) (by simp) ?_
                refine AllReady.cons rfl (fun K hK => ?_) ?_
                · go_simp
                  refine hK _ _ ?_
                  clear hK K
                  refine wpAny_done (by kernel_rfl) ?_ _
                  clear c0 c3 hLk hst
                  go_wp2_with fail
                  go_roundw
                  case rel => exact ⟨j + 1, by go_num, by omega, D4, F4⟩
                  case measure => simp [intOf]; omega
                exact AllReady.nil
              exact AllReady.nil
            exact AllReady.nil
          exact AllReady.nil
        exact AllReady.nil
      · have ilt : ¬ (j : Int) < (S.fs.length : Int) := by omega
        obtain rfl : j = S.fs.length := by omega
        have k2 : wr.cell? ⟨g, 2, none⟩ = some (.int .i64 S.af) := D.out.cell 2
        have k3 : wr.cell? ⟨g, 3, none⟩ = some (.int .i64 S.ct) := D.out.cell 3
        have f2 := D.out.fz 2
        have f3 := D.out.fz 3
        have hok := D.out.ok
        have D2 : Hid (Disk ((wr.setCell ⟨g, 2, none⟩ (.int .i64 0)).setCell ⟨g, 3, none⟩ (.int .i64 0)) base g b P (crs S ks)) :=
          D.out.nums (((Kp.refl P _ _).set (.inr rfl) 2 _).set (.inr rfl) 3 _) _ rfl (by have := set_cells (set_cells D.out.cells 2 (.int .i64 0)) 3 (.int .i64 0); simpa [St.cells, crs] using this) ⟨hok.q, by simp [crs], by simp [crs], hok.rf, hok.len, hok.used, hok.name⟩
        have F2 : Hid (Fr P w0 ((wr.setCell ⟨g, 2, none⟩ (.int .i64 0)).setCell ⟨g, 3, none⟩ (.int .i64 0))) := ((Fr.join Fl0.out F.out).set (.inl D.out.pg) 2 _).set (.inl D.out.pg) 3 _
        clear D F hok
        go_wp2_with fail
        go_ret
        exact ⟨rfl, D2.out, F2.out⟩
  · have HH := hid H
    have HI := hid HK
    have HKP := hid hkp
    have hlen := H.ok.len
    have hkc := HK.2.1
    clear HK hkp H
    go_enter Try.func24, Try.ntmps24
    go_wp2_with fail
    refine (isnone_any w HH.out).mono ?_
    rintro e w0 ⟨rfl, hww⟩
    subst hww
    go_wp2_with fail
    refine (list_any w0 HH.out).mono ?_
    rintro e wl ⟨gl, cap, rfl, hrow, bl⟩
    have Dl := hid (HH.out.later bl)
    have Fl0 := hid ((Fr.refl P w0).below bl)
    have HIl := hid (Ac.ints_later HI.out bl)
    have hcellL : Hid (∀ j, j < S.fs.length → wl.cell? ⟨gl, j, none⟩ = some (encStr ((lst S.fs).getD j []))) := fun j hj => by
      rw [World.ownsRow.cellAt hrow j (by omega), List.getElem?_map, List.getD_eq_getElem?_getD, List.getElem?_eq_getElem (by rw [lst_len]; exact hj)]
      rfl
    have hcap : S.fs.length ≤ cap := by
      rcases hrow.2 with ⟨e, _⟩ | ⟨g', cap', cur, e, _, _, hn, _⟩
      · simp at e
      · simp at e; omega
    have hglP : Hid (¬ P gl) := fun h => by
      have h1 := HH.out.plow gl h
      have h2 := (World.ownsRow.lt hrow gl rfl).1
      omega
    clear hrow bl
    go_wp2_with fail
    go_loopw [13] (fun i wr => ∃ j : Nat, i = .int .i64 j ∧ j ≤ S.fs.length ∧ Hid (Disk wr base g b P { S with fs := cst S.fs ks j }) ∧ Hid (Fr P wl wr)) (fun i _ => S.fs.length - (intOf i).toNat)
    case atStart => exact ⟨0, rfl, by omega, Dl, hid (Fr.refl P wl)⟩
    case round =>
      obtain ⟨j, rfl, hj, D, F⟩ := hrel
      by_cases hlt : j < S.fs.length
      · have ilt : (j : Int) < (S.fs.length : Int) := by omega
        have hname : Hid ((lst S.fs).getD j [] ∈ names S.fs) := lst_mem.1 (by
          rw [List.getD_eq_getElem?_getD, List.getElem?_eq_getElem (by rw [lst_len]; exact hlt)]
          exact List.getElem_mem _)
        obtain ⟨s, hs⟩ : ∃ s, s = (lst S.fs).getD j [] := ⟨_, rfl⟩
        have l0 : wr.cell? ⟨gl, j, none⟩ = some (.string ⟨s.toArray⟩) := by rw [hs]; exact Fr.cell F.out (hcellL.out j hlt) hglP.out
        obtain ⟨f, hf⟩ := seek_name (show s ∈ names S.fs by rw [hs]; exact hname.out)
        obtain ⟨f, hf⟩ : ∃ f, seek (cst S.fs ks j) s = some f := by
          have := seek_cst S.fs ks j s
          rw [hf] at this
          exact Option.isSome_iff_exists.1 this
        have hmem := seek_mem hf
        have hnm := D.out.ok.name _ hmem
        have hb64 : 1 ≤ (⟨s.toArray⟩ : ByteArray).size ∧ (⟨s.toArray⟩ : ByteArray).size ≤ 64 := by
          have e : (⟨s.toArray⟩ : ByteArray).size = s.length := by show s.toArray.size = _; simp
          rw [e]; exact hnm
        have hla := D.out.mem.lasts _ hmem
        have hfu := used_mem hmem
        have hus := D.out.ok.used
        have hrow := D.out.mem.row _ hmem
        obtain ⟨a, c, hsl⟩ := Df.shape hrow
        simp only at hla hfu hus hsl
        have hac : (a = none → f.zs.length = 0 ∧ c = 0) ∧ f.zs.length ≤ c := by
          rcases hrow.2 with ⟨e, h0⟩ | ⟨g', cap', cur, e, _, _, hn, _⟩
          · simp only at e h0; rw [hsl] at e; simp at e; exact ⟨fun _ => ⟨h0, e.2.2⟩, by omega⟩
          · simp only at e hn; rw [hsl] at e; simp at e; exact ⟨fun h => by rw [e.1] at h; simp at h, by rw [e.2]; exact hn⟩
        have hval : f.val = .agg #[.slice a f.zs.length c, .int .i64 f.k] := by rw [← hsl]; rfl
        have DD := D.out.later (below_drew wr)
        have hLk := DD.run_look ⟨s.toArray⟩ hb64.2 false
        rw [bytesOf, show seek ({ S with fs := cst S.fs ks j } : St).fs s = some f from hf] at hLk
        simp only [Option.map_some, Option.getD_some, hval] at hLk
        have hLk : Sem.run Try.prog (Instr.lookup 46 (.map (some b)) (.string ⟨s.toArray⟩) false) wr.drew = .ok (.agg #[.slice a f.zs.length c, .int .i64 f.k]) wr.drew := by rw [hLk]; simp
        have c0 : wr.drew.cell? ⟨g, 0, none⟩ = some (.map (some b)) := DD.cell 0
        have hkx : -9223372036854775808 ≤ kpt ks j ∧ kpt ks j ≤ 9223372036854775807 := by
          unfold kpt
          split
          · omega
          · rename_i h0
            have hm : j % ks.length < ks.length := Nat.mod_lt _ (by omega)
            rw [List.getD_eq_getElem?_getD, List.getElem?_eq_getElem hm]
            exact HI.out.2.2.2.1 _ (List.getElem_mem _)
        have HC := hid (crashed_any a f.zs.length c f.k (kpt ks j) hkx hla hac.2 (by omega) hac.1)
        have hM : sty f.zs.length f.k (kpt ks j) = (cutF f (kpt ks j)).k := rfl
        have hM1 := @sty_le f.zs.length f.k (kpt ks j) hla
        have hcF : (cutF f (kpt ks j)).val = .agg #[.slice a (sty f.zs.length f.k (kpt ks j)) c, .int .i64 (sty f.zs.length f.k (kpt ks j) : Nat)] := by unfold cutF Fl.val; rw [hsl]; rfl
        have hST : Hid (∀ W, Below wr.heap.size wr W → ∃ w', (Instr.mapUpdate 46 (.map (some b)) (.string ⟨s.toArray⟩) (.agg #[.slice a (sty f.zs.length f.k (kpt ks j)) c, .int .i64 (sty f.zs.length f.k (kpt ks j) : Nat)])).run Try.prog W = .ok () w' ∧ Disk w' base g b P { S with fs := cst S.fs ks (j + 1) } ∧ Fr P wl w') := fun W bW => by
          have DW := D.out.later bW
          have hmW := DW.mem.row _ hmem
          obtain ⟨w', h1, h2, h3, _⟩ := DW.run_store (Kp.refl P W none) (by simp) (by simp) ⟨s.toArray⟩ hb64 (cutF f (kpt ks j))
            (fun p hp hne i hi => ⟨by simp, fun e => by
              rw [bytesOf] at hne
              unfold cutF at e
              rw [cut_own] at e
              exact hne (DW.mem.apart p hp _ hmem i hi e)⟩)
            (own_take hmW hM1.2 _) (fun y hy => DW.mem.bytes _ hmem y (List.mem_of_mem_take hy)) (by unfold cutF; simp; omega)
            (by rw [bytesOf, len_put (nodup DW) hf]; exact DW.ok.len) (by rw [bytesOf]; have := @used_cut _ _ _ (kpt ks j) (nodup DW) hf hla; simp only at this ⊢; omega) (fun _ h => h) (fun i hi => by unfold cutF at hi; rw [cut_own] at hi; exact DW.mem.mem _ hmem i hi) DW.low
          rw [hcF] at h1
          refine ⟨w', h1, ?_, (F.out.below bW).grown h3 (fun i hi => .inl (by cases hi; exact D.out.pb))⟩
          have e : cst S.fs ks (j + 1) = put (cst S.fs ks j) s (cutF f (kpt ks j)) := by
            show cutAt (cst S.fs ks j) ((lst S.fs).getD j []) (kpt ks j) = _
            rw [← hs]
            unfold cutAt
            rw [hf]
          rw [e]
          rw [bytesOf] at h2
          exact h2
        have hmz := hid hM1
        have hmod : Hid (0 < ks.length → ((j % ks.length : Nat) : Int) = (j : Int) % (ks.length : Int)) := fun h => by omega
        have HFr := F
        have hIr := hid (ints_fr F.out HIl.out HKP.out)
        generalize sty f.zs.length f.k (kpt ks j) = M at *
        generalize hfn : f.zs.length = n at *
        generalize hfk : f.k = k at *
        clear hM hM1 hcF hs hf hmem hnm hla hfu hus hrow hsl hac hval DD hname
        obtain ⟨x, hx⟩ : ∃ x, x = kpt ks j := ⟨_, rfl⟩
        have hlk : ks.length = kl := HI.out.1
        rw [hlk] at hmod
        have hjm : j % kl < kl := Nat.mod_lt _ hpos
        have hxe : x = ks.getD (j % kl) 0 := by rw [hx]; unfold kpt; rw [hlk, if_neg (by omega)]
        rw [← hx] at HC hkx
        cases ka with
        | none => exact absurd (hIr.out.2.2.1 rfl).1 (by omega)
        | some ad =>
          obtain ⟨kb, ko, kp⟩ := ad
          have hcx : wr.cell? ((⟨kb, ko, kp⟩ : Addr).add (j % kl)) = some (.int .i64 x) := by rw [hxe]; exact hIr.out.2.2.2.2 _ rfl _ hjm
          have hkp0 : kp = none := by simpa [Addr.add] using World.cell?_spot (hIr.out.2.2.2.2 _ rfl 0 hpos)
          subst hkp0
          rw [addr_add] at hcx
          have i0 : (0 : Int) < (kl : Int) := by omega
          have i1 : ((j : Int) % (kl : Int)).toNat = j % kl := by rw [← hmod.out hpos]; exact Int.toNat_natCast _
          have i2 : (j : Int) % (kl : Int) < (kl : Int) := by rw [← hmod.out hpos]; omega
          have i3 : 0 ≤ (j : Int) % (kl : Int) := by rw [← hmod.out hpos]; omega
          have hmz2 := hid hmod.out
          clear hkx hmod hIr hxe hx hlk
          go_wp2_with fail
          refine wp_region_any (by kernel_rfl) ?_
          change wpAny _ _ _ _ _ _ _ (World.drew _)
          refine wpAny_take (i := 0) (v := ?v10) rfl (by kernel_rfl) (by kernel_rfl) (by kernel_rfl) (fun _ _ _ h => h) (Or.inl ⟨by rfl, ?h10⟩) ?_
          case h10 => (intro w; go_simp; try (with_reducible rfl))
          go_simp
          refine wpAny_take (i := 1) (v := ?v11) rfl (by kernel_rfl) (by kernel_rfl) (by kernel_rfl) (fun _ _ _ h => h) (Or.inl ⟨by rfl, ?h11⟩) ?_
          case h11 => (intro w; go_simp; try (with_reducible rfl))
          go_simp
          refine wpAny_take (i := 2) (v := ?v12) rfl (by kernel_rfl) (by kernel_rfl) (by kernel_rfl) (fun _ _ _ h => h) (Or.inl ⟨by rfl, ?h12⟩) ?_
          case h12 => (intro w; go_simp; try (with_reducible rfl))
          go_simp
          refine wpAny_take (i := 4) (v := ?v13) rfl (by kernel_rfl) (by kernel_rfl) (by kernel_rfl) (fun _ _ _ h => h) (Or.inl ⟨by rfl, ?h13⟩) ?_
          case h13 => (intro w; go_simp; try (with_reducible rfl))
          go_simp
          refine wpAny_take (i := 5) (v := ?v14) rfl (by kernel_rfl) (by kernel_rfl) (by kernel_rfl) (fun _ _ _ h => h) (Or.inl ⟨by rfl, ?h14⟩) ?_
          case h14 => (intro w; go_simp; try (with_reducible rfl))
          go_simp
          refine wpAny_take (i := 6) (v := ?v15) rfl (by kernel_rfl) (by kernel_rfl) (by kernel_rfl) (fun _ _ _ h => h) (Or.inl ⟨by rfl, ?h15⟩) ?_
          case h15 => (intro w; go_simp; try (with_reducible rfl))
          go_simp
          refine wpAny_take (i := 7) (v := ?v16) rfl (by kernel_rfl) (by kernel_rfl) (by kernel_rfl) (fun _ _ _ h => h) (Or.inl ⟨by rfl, ?h16⟩) ?_
          case h16 => (intro w; go_simp; try (with_reducible rfl))
          go_simp
          refine wpAny_take (i := 9) (v := ?v17) rfl (by kernel_rfl) (by kernel_rfl) (by kernel_rfl) (fun _ _ _ h => h) (Or.inl ⟨by rfl, ?h17⟩) ?_
          case h17 => (intro w; go_simp; try (with_reducible rfl))
          go_simp
          refine wpAny_take (i := 11) (v := ?v18) rfl (by kernel_rfl) (by kernel_rfl) (by kernel_rfl) (fun _ _ _ h => h) (Or.inl ⟨by rfl, ?h18⟩) ?_
          case h18 => (intro w; go_simp; try (with_reducible rfl))
          go_simp
          refine wpAny_ready (rs := [3, 8]) (by kernel_rfl) (by simp) ?_
          refine AllReady.cons rfl (fun K hK => ?_) ?_
          · go_simp
            refine hK _ _ ?_
            clear hK K
            refine wpAny_ready (rs := [8]) (by kernel_rfl) (by simp) ?_
            refine AllReady.cons rfl (fun K hK => ?_) ?_
            · go_simp
              refine hK _ _ ?_
              clear hK K
              refine wpAny_ready (rs := [10]) (by kernel_rfl) (by simp) ?_
              refine AllReady.cons rfl (fun K hK => ?_) ?_
              · go_simp
                refine hK _ _ ?_
                clear hK K
                refine wpAny_ready (rs := [12]) (by kernel_rfl) (by simp) ?_
                refine AllReady.cons rfl (fun K hK => ?_) ?_
                · go_simp
                  go_wp2_with fail
                  refine (HC.out _).mono ?_
                  rintro e w3 ⟨rfl, b3⟩
                  have b3' : Below wr.heap.size wr w3 := (below_drew wr).trans b3
                  obtain ⟨w4, hst, D4, F4⟩ := hST.out w3 b3'
                  have c3 : w3.cell? ⟨g, 0, none⟩ = some (.map (some b)) := (D.out.later b3').cell 0
                  have D4 := hid D4
                  have F4 := hid F4
                  clear b3 b3'
                  go_wp2_with fail
                  refine wpAny_ready (rs := [13]) (by kernel_rfl) (by simp) ?_
                  refine AllReady.cons rfl (fun K hK => ?_) ?_
                  · go_simp
                    refine hK _ _ ?_
                    clear hK K
                    refine wpAny_done (by kernel_rfl) ?_ _
                    clear c0 c3 hLk hst
                    go_wp2_with fail
                    go_roundw
                    case rel => exact ⟨j + 1, by go_num, by omega, D4, F4⟩
                    case measure => simp [intOf]; omega
                  exact AllReady.nil
                exact AllReady.nil
              exact AllReady.nil
            exact AllReady.nil
          refine AllReady.cons rfl (fun K hK => ?_) ?_
          · go_simp
            refine hK _ _ ?_
            clear hK K
            refine wpAny_ready (rs := [3, 10]) (by kernel_rfl) (by simp) ?_
            refine AllReady.cons rfl (fun K hK => ?_) ?_
            · go_simp
              refine hK _ _ ?_
              clear hK K
              refine wpAny_ready (rs := [10]) (by kernel_rfl) (by simp) ?_
              refine AllReady.cons rfl (fun K hK => ?_) ?_
              · go_simp
                refine hK _ _ ?_
                clear hK K
                refine wpAny_ready (rs := [12]) (by kernel_rfl) (by simp) ?_
                refine AllReady.cons rfl (fun K hK => ?_) ?_
                · go_simp
                  go_wp2_with fail
                  refine (HC.out _).mono ?_
                  rintro e w3 ⟨rfl, b3⟩
                  have b3' : Below wr.heap.size wr w3 := (below_drew wr).trans b3
                  obtain ⟨w4, hst, D4, F4⟩ := hST.out w3 b3'
                  have c3 : w3.cell? ⟨g, 0, none⟩ = some (.map (some b)) := (D.out.later b3').cell 0
                  have D4 := hid D4
                  have F4 := hid F4
                  clear b3 b3'
                  go_wp2_with fail
                  refine wpAny_ready (rs := [13]) (by kernel_rfl) (by simp) ?_
                  refine AllReady.cons rfl (fun K hK => ?_) ?_
                  · go_simp
                    refine hK _ _ ?_
                    clear hK K
                    refine wpAny_done (by kernel_rfl) ?_ _
                    clear c0 c3 hLk hst
                    go_wp2_with fail
                    go_roundw
                    case rel => exact ⟨j + 1, by go_num, by omega, D4, F4⟩
                    case measure => simp [intOf]; omega
                  exact AllReady.nil
                exact AllReady.nil
              exact AllReady.nil
            refine AllReady.cons rfl (fun K hK => ?_) ?_
            · go_simp
              refine hK _ _ ?_
              clear hK K
              refine wpAny_ready (rs := [3, 12]) (by kernel_rfl) (by simp) ?_
              refine AllReady.cons rfl (fun K hK => ?_) ?_
              · go_simp
                refine hK _ _ ?_
                clear hK K
                refine wpAny_ready (rs := [12]) (by kernel_rfl) (by simp) ?_
                refine AllReady.cons rfl (fun K hK => ?_) ?_
                · go_simp
                  go_wp2_with fail
                  refine (HC.out _).mono ?_
                  rintro e w3 ⟨rfl, b3⟩
                  have b3' : Below wr.heap.size wr w3 := (below_drew wr).trans b3
                  obtain ⟨w4, hst, D4, F4⟩ := hST.out w3 b3'
                  have c3 : w3.cell? ⟨g, 0, none⟩ = some (.map (some b)) := (D.out.later b3').cell 0
                  have D4 := hid D4
                  have F4 := hid F4
                  clear b3 b3'
                  go_wp2_with fail
                  refine wpAny_ready (rs := [13]) (by kernel_rfl) (by simp) ?_
                  refine AllReady.cons rfl (fun K hK => ?_) ?_
                  · go_simp
                    refine hK _ _ ?_
                    clear hK K
                    refine wpAny_done (by kernel_rfl) ?_ _
                    clear c0 c3 hLk hst
                    go_wp2_with fail
                    go_roundw
                    case rel => exact ⟨j + 1, by go_num, by omega, D4, F4⟩
                    case measure => simp [intOf]; omega
                  exact AllReady.nil
                exact AllReady.nil
              refine AllReady.cons rfl (fun K hK => ?_) ?_
              · go_simp
                go_wp2_with fail
                refine (HC.out _).mono ?_
                rintro e w3 ⟨rfl, b3⟩
                have b3' : Below wr.heap.size wr w3 := (below_drew wr).trans b3
                obtain ⟨w4, hst, D4, F4⟩ := hST.out w3 b3'
                have c3 : w3.cell? ⟨g, 0, none⟩ = some (.map (some b)) := (D.out.later b3').cell 0
                have D4 := hid D4
                have F4 := hid F4
                clear b3 b3'
                go_wp2_with fail
                refine wpAny_ready (rs := [3]) (by kernel_rfl) (by simp) ?_
                refine AllReady.cons rfl (fun K hK => ?_) ?_
                · go_simp
                  refine hK _ _ ?_
                  clear hK K
                  refine wpAny_ready (rs := [13]) (by kernel_rfl) (by simp) ?_
                  refine AllReady.cons rfl (fun K hK => ?_) ?_
                  · go_simp
                    refine hK _ _ ?_
                    clear hK K
                    refine wpAny_done (by kernel_rfl) ?_ _
                    clear c0 c3 hLk hst
                    go_wp2_with fail
                    go_roundw
                    case rel => exact ⟨j + 1, by go_num, by omega, D4, F4⟩
                    case measure => simp [intOf]; omega
                  exact AllReady.nil
                exact AllReady.nil
              exact AllReady.nil
            exact AllReady.nil
          exact AllReady.nil
      · have ilt : ¬ (j : Int) < (S.fs.length : Int) := by omega
        obtain rfl : j = S.fs.length := by omega
        have k2 : wr.cell? ⟨g, 2, none⟩ = some (.int .i64 S.af) := D.out.cell 2
        have k3 : wr.cell? ⟨g, 3, none⟩ = some (.int .i64 S.ct) := D.out.cell 3
        have f2 := D.out.fz 2
        have f3 := D.out.fz 3
        have hok := D.out.ok
        have D2 : Hid (Disk ((wr.setCell ⟨g, 2, none⟩ (.int .i64 0)).setCell ⟨g, 3, none⟩ (.int .i64 0)) base g b P (crs S ks)) :=
          D.out.nums (((Kp.refl P _ _).set (.inr rfl) 2 _).set (.inr rfl) 3 _) _ rfl (by have := set_cells (set_cells D.out.cells 2 (.int .i64 0)) 3 (.int .i64 0); simpa [St.cells, crs] using this) ⟨hok.q, by simp [crs], by simp [crs], hok.rf, hok.len, hok.used, hok.name⟩
        have F2 : Hid (Fr P w0 ((wr.setCell ⟨g, 2, none⟩ (.int .i64 0)).setCell ⟨g, 3, none⟩ (.int .i64 0))) := ((Fr.join Fl0.out F.out).set (.inl D.out.pg) 2 _).set (.inl D.out.pg) 3 _
        clear D F hok
        go_wp2_with fail
        go_ret
        exact ⟨rfl, D2.out, F2.out⟩
end Go.Proofs.Ytgffojafdjcdoaa.Cs
