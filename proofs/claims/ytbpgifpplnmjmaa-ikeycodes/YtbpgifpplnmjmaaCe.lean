/- The walks of IkeyCodes for internal keys that are valid. -/
import Derived.Test.YtbpgifpplnmjmaaCd
import Derived.ShutString
import Derived.ChangeOld
import Derived.Below
import Derived.SizedLaws
import Derived.Deep.RegionWith
import Derived.Lib.SmallJoins
namespace Go.Proofs.Ytbpgifpplnmjmaa.ikeyCodes
open Go.ChangeShapes Go.WideShapes Go.ChangeAt Go.RowKit Go.Joins
open Go.ChangeMaps (open_string shut_string)
set_option linter.unusedVariables false
open Go.Proofs.Ytbpgifpplnmjmaa.Kd (size_true names_any)
open Go.Proofs.Ytbpgifpplnmjmaa.By
open Go.Proofs.Ytbpgifpplnmjmaa.Mr
open Go.Proofs.Ytbpgifpplnmjmaa.En (vld vld_true encode_yes encode_no decode_yes decode_no rencode_yes rencode_no rdecode_yes rdecode_no decB dv one_below enc_bytes)
set_option maxHeartbeats 8000000 in
set_option maxRecDepth 100000 in
theorem walk_ynn (a : ByteArray) (s k : Int) (w : World) (ha : a.size ≤ maxLen) (hs : 0 ≤ s) (H : Bytes w none 0 0 []) (hcap : 0 ≤ 281474976710656) (V : vld a s k = true) (X : decB [] = false) :
    Calls Try.prog 5 #[.agg #[.string a, .int .u64 s, .int .i64 k], .slice none 0 0] w fun e w' => e = .returned (.bool true) ∧ Below w.heap.size w w' := by
  obtain ⟨i0, hi, hz0, hz1, hz2⟩ := info_parts info5
  obtain ⟨W, hW⟩ : ∃ W, W = w.alloc (.cells #[.string a, .int .u64 s, .int .i64 k] 24) := ⟨_, rfl⟩
  have hbW : Below w.heap.size w W := by rw [hW]; exact one_below _ _
  obtain ⟨g, hg⟩ : ∃ g, g = w.heap.size := ⟨_, rfl⟩
  have c1 : W.cell? ⟨g, 0, none⟩ = some (.string a) := by rw [hW, hg]; go_simp
  have c2 : W.cell? ⟨g, 1, none⟩ = some (.int .u64 s) := by rw [hW, hg]; go_simp
  have c3 : W.cell? ⟨g, 2, none⟩ = some (.int .i64 k) := by rw [hW, hg]; go_simp
  have HB : Hid (Below w.heap.size w W) := hbW
  have HW : Hid (w.alloc (.cells #[.string a, .int .u64 s, .int .i64 k] 24) = W) := hW.symm
  have HG : Hid (w.heap.size = g) := hg.symm
  have H0 : Hid (Bytes w none 0 0 []) := H
  have M : Hid (a.size ≤ maxLen) := ha
  unfold maxLen at ha
  clear hW hg hbW H
  go_enter Try.func5, Try.ntmps5
  go_wp2_with fail
  rw [HW.out, HG.out]
  obtain ⟨r, hr⟩ : ∃ r, r = tx a ++ lb 8 (s * 256 + k) := ⟨_, rfl⟩
  have hrb : ∀ y ∈ r, 0 ≤ y ∧ y ≤ 255 := by rw [hr]; exact enc_bytes a _
  obtain ⟨n, hn⟩ : ∃ n, n = a.size + 8 := ⟨_, rfl⟩
  have hn1 : n ≤ 1032 := by have := size_true (vld_true V).1; omega
  have EX := fun w => encode_yes a s k w M.out hs V
  have RX := fun w => rencode_yes a s k w M.out hs V
  rw [← hr, ← hn] at EX RX
  have HRB : Hid (∀ y ∈ r, 0 ≤ y ∧ y ≤ 255) := hrb
  have HEX := hid EX
  have HRX := hid RX
  clear EX RX hrb hr hn
  refine (HEX.out _).mono ?_
  rintro e w1 ⟨gx, rfl, R1, b1⟩
  have f1 := (b1.cell (block_lt_of_cell c1)).trans c1
  have f2 := (b1.cell (block_lt_of_cell c2)).trans c2
  have f3 := (b1.cell (block_lt_of_cell c3)).trans c3
  have HB1 : Hid (Below w.heap.size w w1) := HB.out.trans (b1.mono HB.out.size)
  have HR1 := hid R1
  clear b1 c1 c2 c3 R1
  go_wp2_with fail
  refine (HEX.out _).mono ?_
  rintro e w2 ⟨gy, rfl, R2, b2⟩
  have e1 := (b2.cell (block_lt_of_cell f1)).trans f1
  have e2 := (b2.cell (block_lt_of_cell f2)).trans f2
  have e3 := (b2.cell (block_lt_of_cell f3)).trans f3
  have HB2 : Hid (Below w.heap.size w w2) := HB1.out.trans (b2.mono HB1.out.size)
  have HR2 := hid R2
  have HR12 := hid (row_below HR1.out b2)
  have hx : gx < w1.heap.size := HR1.out.lt.2
  have hy : w1.heap.size ≤ gy := HR2.out.lt.1
  have h12 : w1.heap.size ≤ w2.heap.size := b2.size
  clear b2 f1 f2 f3 R2
  go_wp2_with fail
  refine (HRX.out _).mono ?_
  rintro e w3 ⟨gw, cw, rfl, Y3, hgw, b3⟩
  have HB3 : Hid (Below w.heap.size w w3) := HB2.out.trans (b3.mono HB2.out.size)
  have HX3 := hid (row_below HR12.out b3)
  have HY3 := hid (row_below HR2.out b3)
  have HW3 := hid Y3
  have hxw : w.heap.size ≤ gx := Nat.le_trans HB.out.size HR1.out.lt.1
  have nxy : gx ≠ gy := by omega
  have nxw : gx ≠ gw := by omega
  clear b3 e1 e2 e3 Y3 HR1 HR2 HR12 HEX HRX hx hy h12 hgw
  have cvX := HX3.out.conv
  have cvW := HW3.out.conv
  go_wp2_with fail
  clear cvX cvW
  go_loopw [11] (fun i wr => ∃ j : Nat, ∃ xs : List Int, i = .int .i64 j ∧ j ≤ n ∧ Hid (Row wr W.heap.size gx n n xs) ∧ Hid (w3.grownBy wr (some gx))) (fun i _ => n - (intOf i).toNat)
  case atStart => exact ⟨0, r, rfl, by omega, HX3, World.grownBy.refl _ _⟩
  case round =>
  obtain ⟨j, xs, rfl, hj, hrow, hgr⟩ := hrel
  by_cases hlt : j < n
  · have cell := hrow.out.cell j hlt
    have fr := World.ownsRow.frozenAt hrow.out j
    generalize xs.getD j 0 = y at cell
    have st := row_set hrow.out j ((y + 1) % 256)
    have HR : Hid (Row (wr.setCell ⟨gx, j, none⟩ (.int .u8 ((y + 1) % 256))) W.heap.size gx n n (xs.set j ((y + 1) % 256))) := st.1
    have HG2 : Hid (w3.grownBy (wr.setCell ⟨gx, j, none⟩ (.int .u8 ((y + 1) % 256))) (some gx)) := grown_trans hgr.out st.2
    clear st hrow hgr
    go_wp2_with fail
    go_roundw
    case rel => exact ⟨j + 1, _, by go_num, by omega, HR, HG2⟩
    case measure => simp [intOf]; omega
  have hjn : j = n := by omega
  subst hjn
  have HB4 : Hid (Below w.heap.size w wr) := HB3.out.grown hgr.out HB3.out.size (by intro q hq; simp at hq; omega)
  have HY4 := hid (HY3.out.kept hgr.out (by simpa using nxy))
  have HW4 := hid (bytes_grown HW3.out hgr.out nxw)
  clear HX3 HY3 HW3 HB3 hrow hgr hlt hj
  obtain ⟨W4, hW4⟩ : ∃ W4, W4 = wr := ⟨_, rfl⟩
  rw [← hW4] at HB4 HY4 HW4 ⊢
  clear hW4
  have HH : Hid (Bytes W4 none 0 0 []) := bytes_kept H0.out HB4.out
  have own0 : (W4.alloc (.cells #[] 5)).ownsRow W4.heap.size 5 1 (.slice (some ⟨W4.heap.size, 0, none⟩) 0 0) 0 [] := World.ownsRow_made W4 #[] 0 (Nat.le_refl _) (by unfold maxLen; omega) rfl
  go_wp2_with (first | (at_builtin; refine wpList_append_own_none rfl (.tmp 59) (.tmp 60) 39 rfl W4.heap.size 5 i0 1 Try.underlying39 hi _ _ _ rfl own0 rfl ?_) | (at_builtin; refine wpList_append_own _ rfl (.tmp 61) (.tmp 62) 39 rfl W4.heap.size 5 i0 (.int .u8 0) 1 1 Try.underlying39 hi hz0 hz1 hz2 rfl (by decide) _ _ _ rfl (own0.alloc _) ⟨W4.heap.size + 1, 0, none⟩ 1 1 [.int .u8 90] rfl rfl ?e1 ?e2 ?e3 ?e4 ?e5 ?_))
  case e1 => intro j u hj; match j, hj with | 0, hj => simp at hj; subst hj; simp [Addr.add, go_sem]
  case e2 => intro u hu; simp at hu; subst hu; rfl
  case e3 => unfold maxLen; omega
  case e4 => omega
  case e5 => simp; omega
  intro v2 w6 own2 g2 hnil2
  obtain ⟨g6, c6, hv2⟩ : ∃ g c, v2 = .slice (some ⟨g, 0, none⟩) 1 c := by
    rcases own2.2 with ⟨h, h'⟩ | ⟨g, c, _, h, _⟩
    · omega
    · exact ⟨g, c, by simpa using h⟩
  subst hv2
  have R6 : Hid (Row w6 W4.heap.size g6 (0 + 1) c6 ([] ++ [90])) := by show Row _ _ _ _ _ _; unfold Row; simpa using own2
  have hc6 : 0 ≤ c6 := by omega
  have B6 : Hid (Below W4.heap.size W4 w6) := by
    have b0 : Below W4.heap.size W4 (W4.alloc (.cells #[] 5)) := (Below.refl _ _).alloc (Nat.le_refl _) _
    have b2 := b0.alloc b0.size (.cells #[.int .u8 90] 5)
    exact b2.grown g2 b2.size (by intro k hk; simp [Value.ownBlock] at hk; omega)
  clear own2 g2 hnil2 own0
  have D1 := decode_no (some ⟨g6, 0, none⟩) 0 c6 [] w6 (lent_bytes R6.out HH.out.2.2.2.1) hcap X
  have D2 := fun W' (hb : Below w.heap.size w W') => rdecode_no none 0 0 [] W' (bytes_kept H0.out hb) hcap X
  have HD1 := hid D1
  have HD2 := hid D2
  clear D1 D2
  go_wp2_with fail
  refine HD1.out.mono ?_
  rintro e w7 ⟨rfl, b7⟩
  have K7 : Below W4.heap.size W4 w7 := B6.out.trans (b7.mono B6.out.size)
  have HR7 := hid (row_below R6.out b7)
  have HK7 := hid K7
  clear b7 K7 R6 HD1
  go_wp2_with fail
  obtain ⟨g8, hg8⟩ : ∃ x, x = w7.heap.size := ⟨_, rfl⟩
  obtain ⟨w8, hw8⟩ : ∃ x, x = w7.alloc (.cells #[.string ⟨#[]⟩, .int .u64 0, .int .i64 0] 24) := ⟨_, rfl⟩
  have p1 : w8.cell? ⟨g8, 0, none⟩ = some (.string ⟨#[]⟩) := by rw [hw8, hg8]; go_simp
  have p2 : w8.cell? ⟨g8, 1, none⟩ = some (.int .u64 0) := by rw [hw8, hg8]; go_simp
  have p3 : w8.cell? ⟨g8, 2, none⟩ = some (.int .i64 0) := by rw [hw8, hg8]; go_simp
  have K8 : Below w7.heap.size w7 w8 := by rw [hw8]; exact one_below _ _
  have HR8 := hid (row_below HR7.out K8)
  have HK8 : Hid (Below W4.heap.size W4 w8) := HK7.out.trans (K8.mono HK7.out.size)
  have HB8 : Hid (Below w.heap.size w w8) := HB4.out.trans (HK8.out.mono HB4.out.size)
  rw [← hw8, ← hg8]
  clear K8 HR7 HK7 hw8 hg8
  refine (HD2.out _ HB8.out).mono ?_
  rintro e w9 ⟨rfl, b9⟩
  have q1 := (b9.cell (block_lt_of_cell p1)).trans p1
  have q2 := (b9.cell (block_lt_of_cell p2)).trans p2
  have q3 := (b9.cell (block_lt_of_cell p3)).trans p3
  have hlt9 : g8 < w9.heap.size := block_lt_of_cell q1
  have hne9 : w9.heap.size ≠ g8 := by omega
  have K9 : Below W4.heap.size W4 w9 := HK8.out.trans (b9.mono HK8.out.size)
  have R9 := row_below HR8.out b9
  have B9 : Below w.heap.size w w9 := HB8.out.trans (b9.mono HB8.out.size)
  have HB9 := hid B9
  have hrs : (str []).size ≤ 140737488351232 := by rw [str_size]; simp
  have cvI : ∀ o, Sem.run Try.prog (convert 39 9 (.slice (some ⟨g6, 0, none⟩) (0 + 1) c6)) (w9.alloc o) = .ok (.string ((str []) ++ ⟨#[90]⟩)) (w9.alloc o) := fun o => by
    rw [← str_snoc]
    exact (row_below R9 (one_below w9 o)).conv
  have cvB : ∀ o, Sem.run Try.prog (convert 39 9 (.slice none 0 0)) (w9.alloc o) = .ok (.string (str [])) (w9.alloc o) := fun o => by
    exact (bytes_kept (bytes_kept H0.out B9) (one_below w9 o)).conv
  have cvY : ∀ o, Sem.run Try.prog (convert 39 9 (.slice (some ⟨gy, 0, none⟩) j j)) (w9.alloc o) = .ok (.string (str r)) (w9.alloc o) := fun o => ((row_below HY4.out (K9.trans ((one_below w9 o).mono K9.size))).conv)
  have cvW : ∀ o, Sem.run Try.prog (convert 39 9 (.slice (some ⟨gw, 0, none⟩) j cw)) (w9.alloc o) = .ok (.string (str r)) (w9.alloc o) := fun o => ((bytes_kept HW4.out (K9.trans ((one_below w9 o).mono K9.size))).conv)
  simp only [Nat.zero_add] at cvI
  clear b9 p1 p2 p3 K9 R9 B9 HR8 HK8 HB8 HD2
  go_wp2_with fail
  refine (names_any _).mono ?_
  rintro e wz ⟨rfl, rfl⟩
  go_wp2_with fail
  go_ret
  exact ⟨rfl, HB9.out.alloc HB9.out.size _⟩

set_option maxHeartbeats 8000000 in
set_option maxRecDepth 100000 in
theorem walk_ysn (a : ByteArray) (s k : Int) (ad : Addr) (len cap : Nat) (zs : List Int) (w : World) (ha : a.size ≤ maxLen) (hs : 0 ≤ s) (H : Bytes w (some ad) len cap zs) (hcap : len ≤ 281474976710656) (hl1 : len ≤ 140737488351232) (V : vld a s k = true) (X : decB zs = false) :
    Calls Try.prog 5 #[.agg #[.string a, .int .u64 s, .int .i64 k], .slice (some ad) len cap] w fun e w' => e = .returned (.bool true) ∧ Below w.heap.size w w' := by
  obtain ⟨i0, hi, hz0, hz1, hz2⟩ := info_parts info5
  obtain ⟨W, hW⟩ : ∃ W, W = w.alloc (.cells #[.string a, .int .u64 s, .int .i64 k] 24) := ⟨_, rfl⟩
  have hbW : Below w.heap.size w W := by rw [hW]; exact one_below _ _
  obtain ⟨g, hg⟩ : ∃ g, g = w.heap.size := ⟨_, rfl⟩
  have c1 : W.cell? ⟨g, 0, none⟩ = some (.string a) := by rw [hW, hg]; go_simp
  have c2 : W.cell? ⟨g, 1, none⟩ = some (.int .u64 s) := by rw [hW, hg]; go_simp
  have c3 : W.cell? ⟨g, 2, none⟩ = some (.int .i64 k) := by rw [hW, hg]; go_simp
  have HB : Hid (Below w.heap.size w W) := hbW
  have HW : Hid (w.alloc (.cells #[.string a, .int .u64 s, .int .i64 k] 24) = W) := hW.symm
  have HG : Hid (w.heap.size = g) := hg.symm
  have H0 : Hid (Bytes w (some ad) len cap zs) := H
  have M : Hid (a.size ≤ maxLen) := ha
  unfold maxLen at ha
  clear hW hg hbW H
  go_enter Try.func5, Try.ntmps5
  go_wp2_with fail
  rw [HW.out, HG.out]
  obtain ⟨r, hr⟩ : ∃ r, r = tx a ++ lb 8 (s * 256 + k) := ⟨_, rfl⟩
  have hrb : ∀ y ∈ r, 0 ≤ y ∧ y ≤ 255 := by rw [hr]; exact enc_bytes a _
  obtain ⟨n, hn⟩ : ∃ n, n = a.size + 8 := ⟨_, rfl⟩
  have hn1 : n ≤ 1032 := by have := size_true (vld_true V).1; omega
  have EX := fun w => encode_yes a s k w M.out hs V
  have RX := fun w => rencode_yes a s k w M.out hs V
  rw [← hr, ← hn] at EX RX
  have HRB : Hid (∀ y ∈ r, 0 ≤ y ∧ y ≤ 255) := hrb
  have HEX := hid EX
  have HRX := hid RX
  clear EX RX hrb hr hn
  refine (HEX.out _).mono ?_
  rintro e w1 ⟨gx, rfl, R1, b1⟩
  have f1 := (b1.cell (block_lt_of_cell c1)).trans c1
  have f2 := (b1.cell (block_lt_of_cell c2)).trans c2
  have f3 := (b1.cell (block_lt_of_cell c3)).trans c3
  have HB1 : Hid (Below w.heap.size w w1) := HB.out.trans (b1.mono HB.out.size)
  have HR1 := hid R1
  clear b1 c1 c2 c3 R1
  go_wp2_with fail
  refine (HEX.out _).mono ?_
  rintro e w2 ⟨gy, rfl, R2, b2⟩
  have e1 := (b2.cell (block_lt_of_cell f1)).trans f1
  have e2 := (b2.cell (block_lt_of_cell f2)).trans f2
  have e3 := (b2.cell (block_lt_of_cell f3)).trans f3
  have HB2 : Hid (Below w.heap.size w w2) := HB1.out.trans (b2.mono HB1.out.size)
  have HR2 := hid R2
  have HR12 := hid (row_below HR1.out b2)
  have hx : gx < w1.heap.size := HR1.out.lt.2
  have hy : w1.heap.size ≤ gy := HR2.out.lt.1
  have h12 : w1.heap.size ≤ w2.heap.size := b2.size
  clear b2 f1 f2 f3 R2
  go_wp2_with fail
  refine (HRX.out _).mono ?_
  rintro e w3 ⟨gw, cw, rfl, Y3, hgw, b3⟩
  have HB3 : Hid (Below w.heap.size w w3) := HB2.out.trans (b3.mono HB2.out.size)
  have HX3 := hid (row_below HR12.out b3)
  have HY3 := hid (row_below HR2.out b3)
  have HW3 := hid Y3
  have hxw : w.heap.size ≤ gx := Nat.le_trans HB.out.size HR1.out.lt.1
  have nxy : gx ≠ gy := by omega
  have nxw : gx ≠ gw := by omega
  clear b3 e1 e2 e3 Y3 HR1 HR2 HR12 HEX HRX hx hy h12 hgw
  have cvX := HX3.out.conv
  have cvW := HW3.out.conv
  go_wp2_with fail
  clear cvX cvW
  go_loopw [11] (fun i wr => ∃ j : Nat, ∃ xs : List Int, i = .int .i64 j ∧ j ≤ n ∧ Hid (Row wr W.heap.size gx n n xs) ∧ Hid (w3.grownBy wr (some gx))) (fun i _ => n - (intOf i).toNat)
  case atStart => exact ⟨0, r, rfl, by omega, HX3, World.grownBy.refl _ _⟩
  case round =>
  obtain ⟨j, xs, rfl, hj, hrow, hgr⟩ := hrel
  by_cases hlt : j < n
  · have cell := hrow.out.cell j hlt
    have fr := World.ownsRow.frozenAt hrow.out j
    generalize xs.getD j 0 = y at cell
    have st := row_set hrow.out j ((y + 1) % 256)
    have HR : Hid (Row (wr.setCell ⟨gx, j, none⟩ (.int .u8 ((y + 1) % 256))) W.heap.size gx n n (xs.set j ((y + 1) % 256))) := st.1
    have HG2 : Hid (w3.grownBy (wr.setCell ⟨gx, j, none⟩ (.int .u8 ((y + 1) % 256))) (some gx)) := grown_trans hgr.out st.2
    clear st hrow hgr
    go_wp2_with fail
    go_roundw
    case rel => exact ⟨j + 1, _, by go_num, by omega, HR, HG2⟩
    case measure => simp [intOf]; omega
  have hjn : j = n := by omega
  subst hjn
  have HB4 : Hid (Below w.heap.size w wr) := HB3.out.grown hgr.out HB3.out.size (by intro q hq; simp at hq; omega)
  have HY4 := hid (HY3.out.kept hgr.out (by simpa using nxy))
  have HW4 := hid (bytes_grown HW3.out hgr.out nxw)
  clear HX3 HY3 HW3 HB3 hrow hgr hlt hj
  obtain ⟨W4, hW4⟩ : ∃ W4, W4 = wr := ⟨_, rfl⟩
  rw [← hW4] at HB4 HY4 HW4 ⊢
  clear hW4
  have HH : Hid (Bytes W4 (some ad) len cap zs) := bytes_kept H0.out HB4.out
  have own0 : (W4.alloc (.cells #[] 5)).ownsRow W4.heap.size 5 1 (.slice (some ⟨W4.heap.size, 0, none⟩) 0 0) 0 [] := World.ownsRow_made W4 #[] 0 (Nat.le_refl _) (by unfold maxLen; omega) rfl
  have BL := (bytes_later HH.out ((Below.refl W4.heap.size W4).alloc (Nat.le_refl _) (.cells #[] 5))).2 ad rfl
  have hlen : (zs.map (Value.int .u8)).length = len * 1 := by simp; exact HH.out.1
  go_wp2_with (at_builtin; refine wpList_append_own _ rfl _ _ 39 rfl W4.heap.size 5 i0 (.int .u8 0) 1 1 Try.underlying39 hi hz0 hz1 hz2 rfl (by decide) _ _ _ rfl own0 ad len cap (zs.map (Value.int .u8)) rfl hlen BL (one_cell zs) ?c3 ?c4 ?c5 ?_)
  case c3 => unfold maxLen; omega
  case c4 => omega
  case c5 => simp
  intro v1 w5 own1 g1 hnil1
  obtain ⟨g5, c5, hv1⟩ : ∃ g c, v1 = .slice (some ⟨g, 0, none⟩) len c := by
    rcases own1.2 with ⟨h, _⟩ | ⟨g, c, _, h, _⟩
    · exact absurd h hnil1
    · exact ⟨g, c, by simpa using h⟩
  subst hv1
  clear hnil1 BL own0
  go_wp2_with (at_builtin; refine wpList_append_own _ rfl _ _ 39 rfl W4.heap.size 5 i0 (.int .u8 0) 1 1 Try.underlying39 hi hz0 hz1 hz2 rfl (by decide) _ _ _ rfl (own1.alloc _) ⟨w5.heap.size, 0, none⟩ 1 1 [.int .u8 90] rfl rfl ?d1 ?d2 ?d3 ?d4 ?d5 ?_)
  case d1 => exact cell_one_new _ _ _
  case d2 => intro u hu; simp at hu; subst hu; rfl
  case d3 => unfold maxLen; omega
  case d4 => omega
  case d5 => have := (World.ownsRow.lt own1 g5 rfl); simp; omega
  intro v2 w6 own2 g2 hnil2
  obtain ⟨g6, c6, hv2⟩ : ∃ g c, v2 = .slice (some ⟨g, 0, none⟩) (len + 1) c := by
    rcases own2.2 with ⟨h, h'⟩ | ⟨g, c, _, h, _⟩
    · omega
    · exact ⟨g, c, by simpa using h⟩
  subst hv2
  have R6 : Hid (Row w6 W4.heap.size g6 (len + 1) c6 (zs ++ [90])) := by show Row _ _ _ _ _ _; unfold Row; simpa using own2
  have hc6 : len ≤ c6 := by
    rcases own2.2 with ⟨h, h'⟩ | ⟨g, c, _, h, _, _, hn, _⟩
    · omega
    · simp at h; omega
  have B6 : Hid (Below W4.heap.size W4 w6) := by
    have b0 : Below W4.heap.size W4 (W4.alloc (.cells #[] 5)) := (Below.refl _ _).alloc (Nat.le_refl _) _
    have b1 : Below W4.heap.size W4 w5 := b0.grown g1 b0.size (by intro k hk; simp [Value.ownBlock] at hk; omega)
    have b2 := b1.alloc b1.size (.cells #[.int .u8 90] 5)
    exact b2.grown g2 b2.size (by intro k hk; simp [Value.ownBlock] at hk; have := (World.ownsRow.lt own1 g5 rfl); omega)
  clear own1 own2 g1 g2 hnil2
  have D1 := decode_no (some ⟨g6, 0, none⟩) len c6 zs w6 (lent_bytes R6.out HH.out.2.2.2.1) hcap X
  have D2 := fun W' (hb : Below w.heap.size w W') => rdecode_no (some ad) len cap zs W' (bytes_kept H0.out hb) hcap X
  have HD1 := hid D1
  have HD2 := hid D2
  clear D1 D2
  go_wp2_with fail
  refine HD1.out.mono ?_
  rintro e w7 ⟨rfl, b7⟩
  have K7 : Below W4.heap.size W4 w7 := B6.out.trans (b7.mono B6.out.size)
  have HR7 := hid (row_below R6.out b7)
  have HK7 := hid K7
  clear b7 K7 R6 HD1
  go_wp2_with fail
  obtain ⟨g8, hg8⟩ : ∃ x, x = w7.heap.size := ⟨_, rfl⟩
  obtain ⟨w8, hw8⟩ : ∃ x, x = w7.alloc (.cells #[.string ⟨#[]⟩, .int .u64 0, .int .i64 0] 24) := ⟨_, rfl⟩
  have p1 : w8.cell? ⟨g8, 0, none⟩ = some (.string ⟨#[]⟩) := by rw [hw8, hg8]; go_simp
  have p2 : w8.cell? ⟨g8, 1, none⟩ = some (.int .u64 0) := by rw [hw8, hg8]; go_simp
  have p3 : w8.cell? ⟨g8, 2, none⟩ = some (.int .i64 0) := by rw [hw8, hg8]; go_simp
  have K8 : Below w7.heap.size w7 w8 := by rw [hw8]; exact one_below _ _
  have HR8 := hid (row_below HR7.out K8)
  have HK8 : Hid (Below W4.heap.size W4 w8) := HK7.out.trans (K8.mono HK7.out.size)
  have HB8 : Hid (Below w.heap.size w w8) := HB4.out.trans (HK8.out.mono HB4.out.size)
  rw [← hw8, ← hg8]
  clear K8 HR7 HK7 hw8 hg8
  refine (HD2.out _ HB8.out).mono ?_
  rintro e w9 ⟨rfl, b9⟩
  have q1 := (b9.cell (block_lt_of_cell p1)).trans p1
  have q2 := (b9.cell (block_lt_of_cell p2)).trans p2
  have q3 := (b9.cell (block_lt_of_cell p3)).trans p3
  have hlt9 : g8 < w9.heap.size := block_lt_of_cell q1
  have hne9 : w9.heap.size ≠ g8 := by omega
  have K9 : Below W4.heap.size W4 w9 := HK8.out.trans (b9.mono HK8.out.size)
  have R9 := row_below HR8.out b9
  have B9 : Below w.heap.size w w9 := HB8.out.trans (b9.mono HB8.out.size)
  have HB9 := hid B9
  obtain ⟨rz, hrz⟩ : ∃ x, x = str zs := ⟨_, rfl⟩
  have hrs : rz.size ≤ 140737488351232 := by rw [hrz, str_size]; have := H0.out.1; omega
  have cvI : ∀ o, Sem.run Try.prog (convert 39 9 (.slice (some ⟨g6, 0, none⟩) (len + 1) c6)) (w9.alloc o) = .ok (.string (rz ++ ⟨#[90]⟩)) (w9.alloc o) := fun o => by
    rw [hrz, ← str_snoc]
    exact (row_below R9 (one_below w9 o)).conv
  have cvB : ∀ o, Sem.run Try.prog (convert 39 9 (.slice (some ad) len cap)) (w9.alloc o) = .ok (.string rz) (w9.alloc o) := fun o => by
    rw [hrz]
    exact (bytes_kept (bytes_kept H0.out B9) (one_below w9 o)).conv
  have cvY : ∀ o, Sem.run Try.prog (convert 39 9 (.slice (some ⟨gy, 0, none⟩) j j)) (w9.alloc o) = .ok (.string (str r)) (w9.alloc o) := fun o => ((row_below HY4.out (K9.trans ((one_below w9 o).mono K9.size))).conv)
  have cvW : ∀ o, Sem.run Try.prog (convert 39 9 (.slice (some ⟨gw, 0, none⟩) j cw)) (w9.alloc o) = .ok (.string (str r)) (w9.alloc o) := fun o => ((bytes_kept HW4.out (K9.trans ((one_below w9 o).mono K9.size))).conv)
  clear b9 p1 p2 p3 K9 R9 B9 HR8 HK8 HB8 HD2 hrz
  go_wp2_with fail
  refine (names_any _).mono ?_
  rintro e wz ⟨rfl, rfl⟩
  go_wp2_with fail
  go_ret
  exact ⟨rfl, HB9.out.alloc HB9.out.size _⟩

set_option maxHeartbeats 8000000 in
set_option maxRecDepth 100000 in
theorem walk_ysy (a : ByteArray) (s k : Int) (ad : Addr) (len cap : Nat) (zs : List Int) (w : World) (ha : a.size ≤ maxLen) (hs : 0 ≤ s) (H : Bytes w (some ad) len cap zs) (hcap : len ≤ 281474976710656) (hl1 : len ≤ 140737488351232) (V : vld a s k = true) (X : decB zs = true) :
    Calls Try.prog 5 #[.agg #[.string a, .int .u64 s, .int .i64 k], .slice (some ad) len cap] w fun e w' => e = .returned (.bool true) ∧ Below w.heap.size w w' := by
  obtain ⟨i0, hi, hz0, hz1, hz2⟩ := info_parts info5
  obtain ⟨W, hW⟩ : ∃ W, W = w.alloc (.cells #[.string a, .int .u64 s, .int .i64 k] 24) := ⟨_, rfl⟩
  have hbW : Below w.heap.size w W := by rw [hW]; exact one_below _ _
  obtain ⟨g, hg⟩ : ∃ g, g = w.heap.size := ⟨_, rfl⟩
  have c1 : W.cell? ⟨g, 0, none⟩ = some (.string a) := by rw [hW, hg]; go_simp
  have c2 : W.cell? ⟨g, 1, none⟩ = some (.int .u64 s) := by rw [hW, hg]; go_simp
  have c3 : W.cell? ⟨g, 2, none⟩ = some (.int .i64 k) := by rw [hW, hg]; go_simp
  have HB : Hid (Below w.heap.size w W) := hbW
  have HW : Hid (w.alloc (.cells #[.string a, .int .u64 s, .int .i64 k] 24) = W) := hW.symm
  have HG : Hid (w.heap.size = g) := hg.symm
  have H0 : Hid (Bytes w (some ad) len cap zs) := H
  have M : Hid (a.size ≤ maxLen) := ha
  unfold maxLen at ha
  clear hW hg hbW H
  go_enter Try.func5, Try.ntmps5
  go_wp2_with fail
  rw [HW.out, HG.out]
  obtain ⟨r, hr⟩ : ∃ r, r = tx a ++ lb 8 (s * 256 + k) := ⟨_, rfl⟩
  have hrb : ∀ y ∈ r, 0 ≤ y ∧ y ≤ 255 := by rw [hr]; exact enc_bytes a _
  obtain ⟨n, hn⟩ : ∃ n, n = a.size + 8 := ⟨_, rfl⟩
  have hn1 : n ≤ 1032 := by have := size_true (vld_true V).1; omega
  have EX := fun w => encode_yes a s k w M.out hs V
  have RX := fun w => rencode_yes a s k w M.out hs V
  rw [← hr, ← hn] at EX RX
  have HRB : Hid (∀ y ∈ r, 0 ≤ y ∧ y ≤ 255) := hrb
  have HEX := hid EX
  have HRX := hid RX
  clear EX RX hrb hr hn
  refine (HEX.out _).mono ?_
  rintro e w1 ⟨gx, rfl, R1, b1⟩
  have f1 := (b1.cell (block_lt_of_cell c1)).trans c1
  have f2 := (b1.cell (block_lt_of_cell c2)).trans c2
  have f3 := (b1.cell (block_lt_of_cell c3)).trans c3
  have HB1 : Hid (Below w.heap.size w w1) := HB.out.trans (b1.mono HB.out.size)
  have HR1 := hid R1
  clear b1 c1 c2 c3 R1
  go_wp2_with fail
  refine (HEX.out _).mono ?_
  rintro e w2 ⟨gy, rfl, R2, b2⟩
  have e1 := (b2.cell (block_lt_of_cell f1)).trans f1
  have e2 := (b2.cell (block_lt_of_cell f2)).trans f2
  have e3 := (b2.cell (block_lt_of_cell f3)).trans f3
  have HB2 : Hid (Below w.heap.size w w2) := HB1.out.trans (b2.mono HB1.out.size)
  have HR2 := hid R2
  have HR12 := hid (row_below HR1.out b2)
  have hx : gx < w1.heap.size := HR1.out.lt.2
  have hy : w1.heap.size ≤ gy := HR2.out.lt.1
  have h12 : w1.heap.size ≤ w2.heap.size := b2.size
  clear b2 f1 f2 f3 R2
  go_wp2_with fail
  refine (HRX.out _).mono ?_
  rintro e w3 ⟨gw, cw, rfl, Y3, hgw, b3⟩
  have HB3 : Hid (Below w.heap.size w w3) := HB2.out.trans (b3.mono HB2.out.size)
  have HX3 := hid (row_below HR12.out b3)
  have HY3 := hid (row_below HR2.out b3)
  have HW3 := hid Y3
  have hxw : w.heap.size ≤ gx := Nat.le_trans HB.out.size HR1.out.lt.1
  have nxy : gx ≠ gy := by omega
  have nxw : gx ≠ gw := by omega
  clear b3 e1 e2 e3 Y3 HR1 HR2 HR12 HEX HRX hx hy h12 hgw
  have cvX := HX3.out.conv
  have cvW := HW3.out.conv
  go_wp2_with fail
  clear cvX cvW
  go_loopw [11] (fun i wr => ∃ j : Nat, ∃ xs : List Int, i = .int .i64 j ∧ j ≤ n ∧ Hid (Row wr W.heap.size gx n n xs) ∧ Hid (w3.grownBy wr (some gx))) (fun i _ => n - (intOf i).toNat)
  case atStart => exact ⟨0, r, rfl, by omega, HX3, World.grownBy.refl _ _⟩
  case round =>
  obtain ⟨j, xs, rfl, hj, hrow, hgr⟩ := hrel
  by_cases hlt : j < n
  · have cell := hrow.out.cell j hlt
    have fr := World.ownsRow.frozenAt hrow.out j
    generalize xs.getD j 0 = y at cell
    have st := row_set hrow.out j ((y + 1) % 256)
    have HR : Hid (Row (wr.setCell ⟨gx, j, none⟩ (.int .u8 ((y + 1) % 256))) W.heap.size gx n n (xs.set j ((y + 1) % 256))) := st.1
    have HG2 : Hid (w3.grownBy (wr.setCell ⟨gx, j, none⟩ (.int .u8 ((y + 1) % 256))) (some gx)) := grown_trans hgr.out st.2
    clear st hrow hgr
    go_wp2_with fail
    go_roundw
    case rel => exact ⟨j + 1, _, by go_num, by omega, HR, HG2⟩
    case measure => simp [intOf]; omega
  have hjn : j = n := by omega
  subst hjn
  have HB4 : Hid (Below w.heap.size w wr) := HB3.out.grown hgr.out HB3.out.size (by intro q hq; simp at hq; omega)
  have HY4 := hid (HY3.out.kept hgr.out (by simpa using nxy))
  have HW4 := hid (bytes_grown HW3.out hgr.out nxw)
  clear HX3 HY3 HW3 HB3 hrow hgr hlt hj
  obtain ⟨W4, hW4⟩ : ∃ W4, W4 = wr := ⟨_, rfl⟩
  rw [← hW4] at HB4 HY4 HW4 ⊢
  clear hW4
  have HH : Hid (Bytes W4 (some ad) len cap zs) := bytes_kept H0.out HB4.out
  have own0 : (W4.alloc (.cells #[] 5)).ownsRow W4.heap.size 5 1 (.slice (some ⟨W4.heap.size, 0, none⟩) 0 0) 0 [] := World.ownsRow_made W4 #[] 0 (Nat.le_refl _) (by unfold maxLen; omega) rfl
  have BL := (bytes_later HH.out ((Below.refl W4.heap.size W4).alloc (Nat.le_refl _) (.cells #[] 5))).2 ad rfl
  have hlen : (zs.map (Value.int .u8)).length = len * 1 := by simp; exact HH.out.1
  go_wp2_with (at_builtin; refine wpList_append_own _ rfl _ _ 39 rfl W4.heap.size 5 i0 (.int .u8 0) 1 1 Try.underlying39 hi hz0 hz1 hz2 rfl (by decide) _ _ _ rfl own0 ad len cap (zs.map (Value.int .u8)) rfl hlen BL (one_cell zs) ?c3 ?c4 ?c5 ?_)
  case c3 => unfold maxLen; omega
  case c4 => omega
  case c5 => simp
  intro v1 w5 own1 g1 hnil1
  obtain ⟨g5, c5, hv1⟩ : ∃ g c, v1 = .slice (some ⟨g, 0, none⟩) len c := by
    rcases own1.2 with ⟨h, _⟩ | ⟨g, c, _, h, _⟩
    · exact absurd h hnil1
    · exact ⟨g, c, by simpa using h⟩
  subst hv1
  clear hnil1 BL own0
  go_wp2_with (at_builtin; refine wpList_append_own _ rfl _ _ 39 rfl W4.heap.size 5 i0 (.int .u8 0) 1 1 Try.underlying39 hi hz0 hz1 hz2 rfl (by decide) _ _ _ rfl (own1.alloc _) ⟨w5.heap.size, 0, none⟩ 1 1 [.int .u8 90] rfl rfl ?d1 ?d2 ?d3 ?d4 ?d5 ?_)
  case d1 => exact cell_one_new _ _ _
  case d2 => intro u hu; simp at hu; subst hu; rfl
  case d3 => unfold maxLen; omega
  case d4 => omega
  case d5 => have := (World.ownsRow.lt own1 g5 rfl); simp; omega
  intro v2 w6 own2 g2 hnil2
  obtain ⟨g6, c6, hv2⟩ : ∃ g c, v2 = .slice (some ⟨g, 0, none⟩) (len + 1) c := by
    rcases own2.2 with ⟨h, h'⟩ | ⟨g, c, _, h, _⟩
    · omega
    · exact ⟨g, c, by simpa using h⟩
  subst hv2
  have R6 : Hid (Row w6 W4.heap.size g6 (len + 1) c6 (zs ++ [90])) := by show Row _ _ _ _ _ _; unfold Row; simpa using own2
  have hc6 : len ≤ c6 := by
    rcases own2.2 with ⟨h, h'⟩ | ⟨g, c, _, h, _, _, hn, _⟩
    · omega
    · simp at h; omega
  have B6 : Hid (Below W4.heap.size W4 w6) := by
    have b0 : Below W4.heap.size W4 (W4.alloc (.cells #[] 5)) := (Below.refl _ _).alloc (Nat.le_refl _) _
    have b1 : Below W4.heap.size W4 w5 := b0.grown g1 b0.size (by intro k hk; simp [Value.ownBlock] at hk; omega)
    have b2 := b1.alloc b1.size (.cells #[.int .u8 90] 5)
    exact b2.grown g2 b2.size (by intro k hk; simp [Value.ownBlock] at hk; have := (World.ownsRow.lt own1 g5 rfl); omega)
  clear own1 own2 g1 g2 hnil2
  obtain ⟨rr, hrr⟩ : ∃ x, x = str (zs.take (len - 8)) := ⟨_, rfl⟩
  obtain ⟨rx, hrx⟩ : ∃ x, x = dv zs / 256 := ⟨_, rfl⟩
  obtain ⟨ry, hry⟩ : ∃ x, x = dv zs % 256 := ⟨_, rfl⟩
  have D1 := decode_yes (some ⟨g6, 0, none⟩) len c6 zs w6 (lent_bytes R6.out HH.out.2.2.2.1) hcap X
  have D2 := fun W' (hb : Below w.heap.size w W') => rdecode_yes (some ad) len cap zs W' (bytes_kept H0.out hb) hcap X
  rw [← hrr, ← hrx, ← hry] at D1
  simp only [← hrr, ← hrx, ← hry] at D2
  clear hrr hrx hry
  have HD1 := hid D1
  have HD2 := hid D2
  clear D1 D2
  go_wp2_with fail
  refine HD1.out.mono ?_
  rintro e w7 ⟨rfl, b7⟩
  have K7 : Below W4.heap.size W4 w7 := B6.out.trans (b7.mono B6.out.size)
  have HR7 := hid (row_below R6.out b7)
  have HK7 := hid K7
  clear b7 K7 R6 HD1
  go_wp2_with fail
  obtain ⟨g8, hg8⟩ : ∃ x, x = w7.heap.size := ⟨_, rfl⟩
  obtain ⟨w8, hw8⟩ : ∃ x, x = w7.alloc (.cells #[.string rr, .int .u64 rx, .int .i64 ry] 24) := ⟨_, rfl⟩
  have p1 : w8.cell? ⟨g8, 0, none⟩ = some (.string rr) := by rw [hw8, hg8]; go_simp
  have p2 : w8.cell? ⟨g8, 1, none⟩ = some (.int .u64 rx) := by rw [hw8, hg8]; go_simp
  have p3 : w8.cell? ⟨g8, 2, none⟩ = some (.int .i64 ry) := by rw [hw8, hg8]; go_simp
  have K8 : Below w7.heap.size w7 w8 := by rw [hw8]; exact one_below _ _
  have HR8 := hid (row_below HR7.out K8)
  have HK8 : Hid (Below W4.heap.size W4 w8) := HK7.out.trans (K8.mono HK7.out.size)
  have HB8 : Hid (Below w.heap.size w w8) := HB4.out.trans (HK8.out.mono HB4.out.size)
  rw [← hw8, ← hg8]
  clear K8 HR7 HK7 hw8 hg8
  refine (HD2.out _ HB8.out).mono ?_
  rintro e w9 ⟨rfl, b9⟩
  have q1 := (b9.cell (block_lt_of_cell p1)).trans p1
  have q2 := (b9.cell (block_lt_of_cell p2)).trans p2
  have q3 := (b9.cell (block_lt_of_cell p3)).trans p3
  have hlt9 : g8 < w9.heap.size := block_lt_of_cell q1
  have hne9 : w9.heap.size ≠ g8 := by omega
  have K9 : Below W4.heap.size W4 w9 := HK8.out.trans (b9.mono HK8.out.size)
  have R9 := row_below HR8.out b9
  have B9 : Below w.heap.size w w9 := HB8.out.trans (b9.mono HB8.out.size)
  have HB9 := hid B9
  obtain ⟨rz, hrz⟩ : ∃ x, x = str zs := ⟨_, rfl⟩
  have hrs : rz.size ≤ 140737488351232 := by rw [hrz, str_size]; have := H0.out.1; omega
  have cvI : ∀ o, Sem.run Try.prog (convert 39 9 (.slice (some ⟨g6, 0, none⟩) (len + 1) c6)) (w9.alloc o) = .ok (.string (rz ++ ⟨#[90]⟩)) (w9.alloc o) := fun o => by
    rw [hrz, ← str_snoc]
    exact (row_below R9 (one_below w9 o)).conv
  have cvB : ∀ o, Sem.run Try.prog (convert 39 9 (.slice (some ad) len cap)) (w9.alloc o) = .ok (.string rz) (w9.alloc o) := fun o => by
    rw [hrz]
    exact (bytes_kept (bytes_kept H0.out B9) (one_below w9 o)).conv
  have cvY : ∀ o, Sem.run Try.prog (convert 39 9 (.slice (some ⟨gy, 0, none⟩) j j)) (w9.alloc o) = .ok (.string (str r)) (w9.alloc o) := fun o => ((row_below HY4.out (K9.trans ((one_below w9 o).mono K9.size))).conv)
  have cvW : ∀ o, Sem.run Try.prog (convert 39 9 (.slice (some ⟨gw, 0, none⟩) j cw)) (w9.alloc o) = .ok (.string (str r)) (w9.alloc o) := fun o => ((bytes_kept HW4.out (K9.trans ((one_below w9 o).mono K9.size))).conv)
  clear b9 p1 p2 p3 K9 R9 B9 HR8 HK8 HB8 HD2 hrz
  go_wp2_with fail
  refine (names_any _).mono ?_
  rintro e wz ⟨rfl, rfl⟩
  go_wp2_with fail
  go_ret
  exact ⟨rfl, HB9.out.alloc HB9.out.size _⟩

end Go.Proofs.Ytbpgifpplnmjmaa.ikeyCodes
