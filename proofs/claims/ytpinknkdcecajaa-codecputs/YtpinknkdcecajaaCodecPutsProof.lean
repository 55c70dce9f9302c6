/- Proved: for all bytes, every number and every text, CodecPuts returns true: PutVarint, PutFixed64, PutFixed32 and PutText of the program answer the bytes that the document's definition answers, in new memory each time, and the bytes that were handed in and what lies behind them stay as they were. -/
import Derived.Test.YtpinknkdcecajaaJn
import Derived.ShutString
import Derived.ChangeOld
import Derived.Below
import Derived.SizedLaws
import Derived.Deep.RegionWith
namespace Go.Proofs.Ytpinknkdcecajaa.codecPuts
open Go.ChangeShapes Go.WideShapes Go.ChangeAt Go.RowKit
open Go.ChangeMaps (open_string shut_string)
open Go.Proofs.Ytpinknkdcecajaa.Rd (Bytes ret_int addr_add)
open Go.Proofs.Ytpinknkdcecajaa.Wr
open Go.Proofs.Ytpinknkdcecajaa.Rx
open Go.Proofs.Ytpinknkdcecajaa.Rt
open Go.Proofs.Ytpinknkdcecajaa.Ws
open Go.Proofs.Ytpinknkdcecajaa.Wp
open Go.Proofs.Ytpinknkdcecajaa.Jn
set_option linter.unusedVariables false

/-- What stays while the law goes on: the lent bytes with their mark, and all that was there before. -/
def Inv (w : World) (gi ci len : Nat) (zs : List Int) (W : World) : Prop := Row W w.heap.size gi (len + 1) ci (zs ++ [90]) ∧ Below w.heap.size w W
theorem inv_below {w W W' : World} {gi ci len : Nat} {zs : List Int} (I : Inv w gi ci len zs W) (b : Below W.heap.size W W') : Inv w gi ci len zs W' :=
  ⟨row_below I.1 b, I.2.trans (b.mono I.2.size)⟩
theorem inv_grown {w W W' : World} {gi ci len gx : Nat} {zs : List Int} (I : Inv w gi ci len zs W) (g : W.grownBy W' (some gx)) (hne : gi < gx) : Inv w gi ci len zs W' :=
  ⟨I.1.kept g (by simp; omega), I.2.grown g I.2.size (by intro k hk; simp at hk; have := I.1.lt; omega)⟩
theorem inv_in {w W : World} {gi ci len : Nat} {zs : List Int} (I : Inv w gi ci len zs W) (hb : ∀ y ∈ zs, 0 ≤ y ∧ y ≤ 255) : Bytes W (some ⟨gi, 0, none⟩) len ci zs := lent_bytes I.1 hb
theorem inv_b {w W : World} {gi ci len cap : Nat} {zs : List Int} {a : Option Addr} (I : Inv w gi ci len zs W) (H : Bytes w a len cap zs) : Bytes W a len cap zs := bytes_kept H I.2

theorem txt_bytes (s : ByteArray) (hs : s.size ≤ 140737488351232) : ∀ y ∈ Vb.vb s.size ++ tx s, 0 ≤ y ∧ y ≤ 255 := by
  intro y hy
  rcases List.mem_append.1 hy with h | h
  · exact Vb.vb_bytes s.size (by omega) y h
  · exact tx_bytes s y h

set_option maxHeartbeats 8000000 in
theorem puts (a : Option Addr) (len cap : Nat) (zs : List Int) (v : Int) (s : ByteArray) (w : World) (H : Bytes w a len cap zs) (hcap : cap ≤ 140737488351232) (hv : 0 ≤ v ∧ v ≤ 18446744073709551615) (hs : s.size ≤ 140737488351232) :
    Calls Try.prog 3 #[.slice a len cap, .int .u64 v, .string s] w fun e w' => e = .returned (.bool true) ∧ Below w.heap.size w w' := by
  have hl : len ≤ 140737488351232 := by have := H.2.1; omega
  have HH : Hid (Bytes w a len cap zs) := H
  have HZ : Hid (∀ y ∈ zs, 0 ≤ y ∧ y ≤ 255) := H.2.2.2.1
  have V10 := Vb.vb_le v
  have S10 := Vb.vb_le s.size
  obtain ⟨hv0, hv1⟩ := hv
  clear H
  go_enter Try.func3, Try.ntmps3
  go_wp2_with fail
  refine (lent_any a len cap zs _ HH.out (by omega)).mono ?_
  rintro e w1 ⟨gi, ci, rfl, R, b1⟩
  have I : Hid (Inv w gi ci len zs w1) := ⟨R, b1⟩
  clear R b1
  go_wp2_with fail
  refine (names_any _).mono ?_
  rintro e w' ⟨rfl, rfl⟩
  go_wp2_with fail
  refine (Rd.size_any v _ (by omega)).mono ?_
  rintro e w'' ⟨rfl, rfl⟩
  go_wp2_with fail
  refine (rvar_any v _ (by omega)).mono ?_
  rintro e W0 ⟨g0, c0, rfl, R0, b0⟩
  have I0 : Hid (Inv w gi ci len zs W0) := inv_below I.out b0
  clear R0 b0 I
  go_wp2_with fail
  refine (putv_any _ len ci zs v _ (inv_in I0.out HZ.out) (by omega) (by omega)).mono ?_
  rintro e Xvar1 ⟨rfl, RXvar1, bxvar1⟩
  have Ivar1 : Hid (Inv w gi ci len zs Xvar1) := inv_below I0.out bxvar1
  have hltvar1 : gi < W0.heap.size := I0.out.1.lt.2
  have HXvar1 : Hid (Row Xvar1 W0.heap.size W0.heap.size (len + (Vb.vb v).length) (len + (Vb.vb v).length) (zs ++ Vb.vb v)) := RXvar1
  clear RXvar1 bxvar1 I0
  go_wp2_with fail
  refine (putv_any _ len ci zs v _ (inv_in Ivar1.out HZ.out) (by omega) (by omega)).mono ?_
  rintro e Xvar2 ⟨rfl, RXvar2, bxvar2⟩
  have Ivar2 : Hid (Inv w gi ci len zs Xvar2) := inv_below Ivar1.out bxvar2
  have hltvar2 : gi < Xvar1.heap.size := Ivar1.out.1.lt.2
  have HXvar2 : Hid (Row Xvar2 Xvar1.heap.size Xvar1.heap.size (len + (Vb.vb v).length) (len + (Vb.vb v).length) (zs ++ Vb.vb v)) := RXvar2
  have HXvar1b : Hid (Row Xvar2 W0.heap.size W0.heap.size (len + (Vb.vb v).length) (len + (Vb.vb v).length) (zs ++ Vb.vb v)) := row_below HXvar1.out bxvar2
  have hnevar : W0.heap.size < Xvar1.heap.size := HXvar1.out.lt.2
  clear HXvar1
  clear RXvar2 bxvar2 Ivar1
  go_wp2_with fail
  refine (rvar_any v _ (by omega)).mono ?_
  rintro e Yvar1 ⟨grvar1, crvar1, rfl, Rrvar1, brvar1⟩
  have Iyvar1 : Hid (Inv w gi ci len zs Yvar1) := inv_below Ivar2.out brvar1
  have Brvar1 : Hid (Bytes Yvar1 (some ⟨grvar1, 0, none⟩) (Vb.vb v).length crvar1 (Vb.vb v)) := Rrvar1.bytes (Vb.vb_bytes v ⟨hv0, hv1⟩)
  have HA : Hid (Row Yvar1 W0.heap.size W0.heap.size (len + (Vb.vb v).length) (len + (Vb.vb v).length) (zs ++ Vb.vb v)) := row_below HXvar1b.out brvar1
  have HC : Hid (Row Yvar1 Xvar1.heap.size Xvar1.heap.size (len + (Vb.vb v).length) (len + (Vb.vb v).length) (zs ++ Vb.vb v)) := row_below HXvar2.out brvar1
  clear HXvar1b HXvar2 Rrvar1 brvar1 Ivar2
  go_wp2_with fail
  refine (joined_any _ _ _ _ _ a len cap zs _ _ _ _ _ HA.out (inv_b Iyvar1.out HH.out) Brvar1.out rfl (by omega)).mono ?_
  rintro e Zvar1 ⟨rfl, gz⟩
  have Izvar1 : Hid (Inv w gi ci len zs Zvar1) := inv_grown Iyvar1.out gz (by omega)
  have HD : Hid (Row Zvar1 Xvar1.heap.size Xvar1.heap.size (len + (Vb.vb v).length) (len + (Vb.vb v).length) (zs ++ Vb.vb v)) := HC.out.kept gz (by simp; omega)
  clear gz HA HC Iyvar1 Brvar1
  go_wp2_with fail
  refine (rvar_any v _ (by omega)).mono ?_
  rintro e Yvar2 ⟨grvar2, crvar2, rfl, Rrvar2, brvar2⟩
  have Iyvar2 : Hid (Inv w gi ci len zs Yvar2) := inv_below Izvar1.out brvar2
  have Brvar2 : Hid (Bytes Yvar2 (some ⟨grvar2, 0, none⟩) (Vb.vb v).length crvar2 (Vb.vb v)) := Rrvar2.bytes (Vb.vb_bytes v ⟨hv0, hv1⟩)
  have HE : Hid (Row Yvar2 Xvar1.heap.size Xvar1.heap.size (len + (Vb.vb v).length) (len + (Vb.vb v).length) (zs ++ Vb.vb v)) := row_below HD.out brvar2
  clear HD Rrvar2 brvar2 Izvar1
  go_wp2_with fail
  refine (joined_any _ _ _ _ _ a len cap zs _ _ _ _ _ HE.out (inv_b Iyvar2.out HH.out) Brvar2.out rfl (by omega)).mono ?_
  rintro e Zvar2 ⟨rfl, gz⟩
  have Izvar2 : Hid (Inv w gi ci len zs Zvar2) := inv_grown Iyvar2.out gz (by omega)
  clear gz HE Iyvar2 Brvar2 hltvar1 hltvar2 hnevar
  go_wp2_with fail
  refine (putf64_any _ len ci zs v _ (inv_in Izvar2.out HZ.out) (by omega) (by omega)).mono ?_
  rintro e Xf641 ⟨rfl, RXf641, bxf641⟩
  have If641 : Hid (Inv w gi ci len zs Xf641) := inv_below Izvar2.out bxf641
  have hltf641 : gi < Zvar2.heap.size := Izvar2.out.1.lt.2
  have HXf641 : Hid (Row Xf641 Zvar2.heap.size Zvar2.heap.size (len + 8) (len + 8) (zs ++ lb 8 v)) := RXf641
  clear RXf641 bxf641 Izvar2
  go_wp2_with fail
  refine (putf64_any _ len ci zs v _ (inv_in If641.out HZ.out) (by omega) (by omega)).mono ?_
  rintro e Xf642 ⟨rfl, RXf642, bxf642⟩
  have If642 : Hid (Inv w gi ci len zs Xf642) := inv_below If641.out bxf642
  have hltf642 : gi < Xf641.heap.size := If641.out.1.lt.2
  have HXf642 : Hid (Row Xf642 Xf641.heap.size Xf641.heap.size (len + 8) (len + 8) (zs ++ lb 8 v)) := RXf642
  have HXf641b : Hid (Row Xf642 Zvar2.heap.size Zvar2.heap.size (len + 8) (len + 8) (zs ++ lb 8 v)) := row_below HXf641.out bxf642
  have hnef64 : Zvar2.heap.size < Xf641.heap.size := HXf641.out.lt.2
  clear HXf641
  clear RXf642 bxf642 If641
  go_wp2_with fail
  refine (rfix_any v 8 _ (by omega) (by omega)).mono ?_
  rintro e Yf641 ⟨grf641, crf641, rfl, Rrf641, brf641⟩
  have Iyf641 : Hid (Inv w gi ci len zs Yf641) := inv_below If642.out brf641
  have Brf641 : Hid (Bytes Yf641 (some ⟨grf641, 0, none⟩) 8 crf641 (lb 8 v)) := Rrf641.bytes (lb_bytes 8 v)
  have HA : Hid (Row Yf641 Zvar2.heap.size Zvar2.heap.size (len + 8) (len + 8) (zs ++ lb 8 v)) := row_below HXf641b.out brf641
  have HC : Hid (Row Yf641 Xf641.heap.size Xf641.heap.size (len + 8) (len + 8) (zs ++ lb 8 v)) := row_below HXf642.out brf641
  clear HXf641b HXf642 Rrf641 brf641 If642
  go_wp2_with fail
  refine (joined_any _ _ _ _ _ a len cap zs _ _ _ _ _ HA.out (inv_b Iyf641.out HH.out) Brf641.out rfl (by omega)).mono ?_
  rintro e Zf641 ⟨rfl, gz⟩
  have Izf641 : Hid (Inv w gi ci len zs Zf641) := inv_grown Iyf641.out gz (by omega)
  have HD : Hid (Row Zf641 Xf641.heap.size Xf641.heap.size (len + 8) (len + 8) (zs ++ lb 8 v)) := HC.out.kept gz (by simp; omega)
  clear gz HA HC Iyf641 Brf641
  go_wp2_with fail
  refine (rfix_any v 8 _ (by omega) (by omega)).mono ?_
  rintro e Yf642 ⟨grf642, crf642, rfl, Rrf642, brf642⟩
  have Iyf642 : Hid (Inv w gi ci len zs Yf642) := inv_below Izf641.out brf642
  have Brf642 : Hid (Bytes Yf642 (some ⟨grf642, 0, none⟩) 8 crf642 (lb 8 v)) := Rrf642.bytes (lb_bytes 8 v)
  have HE : Hid (Row Yf642 Xf641.heap.size Xf641.heap.size (len + 8) (len + 8) (zs ++ lb 8 v)) := row_below HD.out brf642
  clear HD Rrf642 brf642 Izf641
  go_wp2_with fail
  refine (joined_any _ _ _ _ _ a len cap zs _ _ _ _ _ HE.out (inv_b Iyf642.out HH.out) Brf642.out rfl (by omega)).mono ?_
  rintro e Zf642 ⟨rfl, gz⟩
  have Izf642 : Hid (Inv w gi ci len zs Zf642) := inv_grown Iyf642.out gz (by omega)
  clear gz HE Iyf642 Brf642 hltf641 hltf642 hnef64
  go_wp2_with fail
  refine (putf32_any _ len ci zs (v % 4294967296) _ (inv_in Izf642.out HZ.out) (by omega) (by omega)).mono ?_
  rintro e Xf321 ⟨rfl, RXf321, bxf321⟩
  rw [lb_low] at RXf321
  have If321 : Hid (Inv w gi ci len zs Xf321) := inv_below Izf642.out bxf321
  have hltf321 : gi < Zf642.heap.size := Izf642.out.1.lt.2
  have HXf321 : Hid (Row Xf321 Zf642.heap.size Zf642.heap.size (len + 4) (len + 4) (zs ++ lb 4 v)) := RXf321
  clear RXf321 bxf321 Izf642
  go_wp2_with fail
  refine (putf32_any _ len ci zs (v % 4294967296) _ (inv_in If321.out HZ.out) (by omega) (by omega)).mono ?_
  rintro e Xf322 ⟨rfl, RXf322, bxf322⟩
  rw [lb_low] at RXf322
  have If322 : Hid (Inv w gi ci len zs Xf322) := inv_below If321.out bxf322
  have hltf322 : gi < Xf321.heap.size := If321.out.1.lt.2
  have HXf322 : Hid (Row Xf322 Xf321.heap.size Xf321.heap.size (len + 4) (len + 4) (zs ++ lb 4 v)) := RXf322
  have HXf321b : Hid (Row Xf322 Zf642.heap.size Zf642.heap.size (len + 4) (len + 4) (zs ++ lb 4 v)) := row_below HXf321.out bxf322
  have hnef32 : Zf642.heap.size < Xf321.heap.size := HXf321.out.lt.2
  clear HXf321
  clear RXf322 bxf322 If321
  go_wp2_with fail
  refine (rfix_any v 4 _ (by omega) (by omega)).mono ?_
  rintro e Yf321 ⟨grf321, crf321, rfl, Rrf321, brf321⟩
  have Iyf321 : Hid (Inv w gi ci len zs Yf321) := inv_below If322.out brf321
  have Brf321 : Hid (Bytes Yf321 (some ⟨grf321, 0, none⟩) 4 crf321 (lb 4 v)) := Rrf321.bytes (lb_bytes 4 v)
  have HA : Hid (Row Yf321 Zf642.heap.size Zf642.heap.size (len + 4) (len + 4) (zs ++ lb 4 v)) := row_below HXf321b.out brf321
  have HC : Hid (Row Yf321 Xf321.heap.size Xf321.heap.size (len + 4) (len + 4) (zs ++ lb 4 v)) := row_below HXf322.out brf321
  clear HXf321b HXf322 Rrf321 brf321 If322
  go_wp2_with fail
  refine (joined_any _ _ _ _ _ a len cap zs _ _ _ _ _ HA.out (inv_b Iyf321.out HH.out) Brf321.out rfl (by omega)).mono ?_
  rintro e Zf321 ⟨rfl, gz⟩
  have Izf321 : Hid (Inv w gi ci len zs Zf321) := inv_grown Iyf321.out gz (by omega)
  have HD : Hid (Row Zf321 Xf321.heap.size Xf321.heap.size (len + 4) (len + 4) (zs ++ lb 4 v)) := HC.out.kept gz (by simp; omega)
  clear gz HA HC Iyf321 Brf321
  go_wp2_with fail
  refine (rfix_any v 4 _ (by omega) (by omega)).mono ?_
  rintro e Yf322 ⟨grf322, crf322, rfl, Rrf322, brf322⟩
  have Iyf322 : Hid (Inv w gi ci len zs Yf322) := inv_below Izf321.out brf322
  have Brf322 : Hid (Bytes Yf322 (some ⟨grf322, 0, none⟩) 4 crf322 (lb 4 v)) := Rrf322.bytes (lb_bytes 4 v)
  have HE : Hid (Row Yf322 Xf321.heap.size Xf321.heap.size (len + 4) (len + 4) (zs ++ lb 4 v)) := row_below HD.out brf322
  clear HD Rrf322 brf322 Izf321
  go_wp2_with fail
  refine (joined_any _ _ _ _ _ a len cap zs _ _ _ _ _ HE.out (inv_b Iyf322.out HH.out) Brf322.out rfl (by omega)).mono ?_
  rintro e Zf322 ⟨rfl, gz⟩
  have Izf322 : Hid (Inv w gi ci len zs Zf322) := inv_grown Iyf322.out gz (by omega)
  clear gz HE Iyf322 Brf322 hltf321 hltf322 hnef32
  go_wp2_with fail
  refine (putt_any _ len ci zs s _ (inv_in Izf322.out HZ.out) (by omega) (by omega)).mono ?_
  rintro e Xtxt1 ⟨ctxt1, rfl, RXtxt1, bxtxt1⟩
  rw [List.append_assoc] at RXtxt1
  have Itxt1 : Hid (Inv w gi ci len zs Xtxt1) := inv_below Izf322.out bxtxt1
  have hlttxt1 : gi < Zf322.heap.size := Izf322.out.1.lt.2
  have HXtxt1 : Hid (Row Xtxt1 Zf322.heap.size Zf322.heap.size (len + (Vb.vb s.size).length + s.size) ctxt1 (zs ++ (Vb.vb s.size ++ tx s))) := RXtxt1
  clear RXtxt1 bxtxt1 Izf322
  go_wp2_with fail
  refine (putt_any _ len ci zs s _ (inv_in Itxt1.out HZ.out) (by omega) (by omega)).mono ?_
  rintro e Xtxt2 ⟨ctxt2, rfl, RXtxt2, bxtxt2⟩
  rw [List.append_assoc] at RXtxt2
  have Itxt2 : Hid (Inv w gi ci len zs Xtxt2) := inv_below Itxt1.out bxtxt2
  have hlttxt2 : gi < Xtxt1.heap.size := Itxt1.out.1.lt.2
  have HXtxt2 : Hid (Row Xtxt2 Xtxt1.heap.size Xtxt1.heap.size (len + (Vb.vb s.size).length + s.size) ctxt2 (zs ++ (Vb.vb s.size ++ tx s))) := RXtxt2
  have HXtxt1b : Hid (Row Xtxt2 Zf322.heap.size Zf322.heap.size (len + (Vb.vb s.size).length + s.size) ctxt1 (zs ++ (Vb.vb s.size ++ tx s))) := row_below HXtxt1.out bxtxt2
  have hnetxt : Zf322.heap.size < Xtxt1.heap.size := HXtxt1.out.lt.2
  clear HXtxt1
  clear RXtxt2 bxtxt2 Itxt1
  go_wp2_with fail
  refine (rtxt_any s _ (by omega)).mono ?_
  rintro e Ytxt1 ⟨grtxt1, crtxt1, rfl, Rrtxt1, brtxt1⟩
  have Iytxt1 : Hid (Inv w gi ci len zs Ytxt1) := inv_below Itxt2.out brtxt1
  have Brtxt1 : Hid (Bytes Ytxt1 (some ⟨grtxt1, 0, none⟩) ((Vb.vb s.size).length + s.size) crtxt1 (Vb.vb s.size ++ tx s)) := Rrtxt1.bytes (txt_bytes s hs)
  have HA : Hid (Row Ytxt1 Zf322.heap.size Zf322.heap.size (len + (Vb.vb s.size).length + s.size) ctxt1 (zs ++ (Vb.vb s.size ++ tx s))) := row_below HXtxt1b.out brtxt1
  have HC : Hid (Row Ytxt1 Xtxt1.heap.size Xtxt1.heap.size (len + (Vb.vb s.size).length + s.size) ctxt2 (zs ++ (Vb.vb s.size ++ tx s))) := row_below HXtxt2.out brtxt1
  clear HXtxt1b HXtxt2 Rrtxt1 brtxt1 Itxt2
  go_wp2_with fail
  refine (joined_any _ _ _ _ _ a len cap zs _ _ _ _ _ HA.out (inv_b Iytxt1.out HH.out) Brtxt1.out rfl (by omega)).mono ?_
  rintro e Ztxt1 ⟨rfl, gz⟩
  have Iztxt1 : Hid (Inv w gi ci len zs Ztxt1) := inv_grown Iytxt1.out gz (by omega)
  have HD : Hid (Row Ztxt1 Xtxt1.heap.size Xtxt1.heap.size (len + (Vb.vb s.size).length + s.size) ctxt2 (zs ++ (Vb.vb s.size ++ tx s))) := HC.out.kept gz (by simp; omega)
  clear gz HA HC Iytxt1 Brtxt1
  go_wp2_with fail
  refine (rtxt_any s _ (by omega)).mono ?_
  rintro e Ytxt2 ⟨grtxt2, crtxt2, rfl, Rrtxt2, brtxt2⟩
  have Iytxt2 : Hid (Inv w gi ci len zs Ytxt2) := inv_below Iztxt1.out brtxt2
  have Brtxt2 : Hid (Bytes Ytxt2 (some ⟨grtxt2, 0, none⟩) ((Vb.vb s.size).length + s.size) crtxt2 (Vb.vb s.size ++ tx s)) := Rrtxt2.bytes (txt_bytes s hs)
  have HE : Hid (Row Ytxt2 Xtxt1.heap.size Xtxt1.heap.size (len + (Vb.vb s.size).length + s.size) ctxt2 (zs ++ (Vb.vb s.size ++ tx s))) := row_below HD.out brtxt2
  clear HD Rrtxt2 brtxt2 Iztxt1
  go_wp2_with fail
  refine (joined_any _ _ _ _ _ a len cap zs _ _ _ _ _ HE.out (inv_b Iytxt2.out HH.out) Brtxt2.out rfl (by omega)).mono ?_
  rintro e Ztxt2 ⟨rfl, gz⟩
  have Iztxt2 : Hid (Inv w gi ci len zs Ztxt2) := inv_grown Iytxt2.out gz (by omega)
  clear gz HE Iytxt2 Brtxt2 hlttxt1 hlttxt2 hnetxt
  go_wp2_with fail
  refine (kept_any _ gi ci a len cap zs _ Iztxt2.out.1 (inv_b Iztxt2.out HH.out) (by omega)).mono ?_
  rintro e w' ⟨rfl, rfl⟩
  go_wp2_with fail
  go_ret
  exact ⟨rfl, Iztxt2.out.2⟩

theorem bu64 {v : Int} (h : (Lit.int .u64 v).wf = true) : 0 ≤ v ∧ v ≤ 18446744073709551615 := by
  simpa [Lit.wf, IntKind.min, IntKind.max, IntKind.signed, IntKind.bits] using h
theorem walk (a0 : Option Addr) (len0 cap0 : Nat) (z0 : List Int) (a1 : Int) (a2 : ByteArray) (w : World) (w0 : Bytes w a0 len0 cap0 z0) (c0 : cap0 ≤ 140737488351232) (w1 : (Lit.int .u64 a1).wf = true) (c2 : a2.size ≤ 140737488351232) :
    Calls Try.prog 3 #[.slice a0 len0 cap0, .int .u64 a1, .string a2] w fun e w' => e = .returned (.bool true) ∧ Below w.heap.size w w' :=
  puts a0 len0 cap0 z0 a1 a2 w w0 c0 (bu64 w1) c2

theorem own : ownKnob Try.prog.godebug = none := by kernel_rfl
theorem laidOut : laidOutB Try.prog = true := by kernel_rfl
theorem bytes5 : Try.prog.bytesOf 5 = 1 := by kernel_rfl
theorem u8_bd {y : Int} (h : (Lit.int .u8 y).wf = true) : 0 ≤ y ∧ y ≤ 255 := by
  simpa [Lit.wf, IntKind.min, IntKind.max, IntKind.signed, IntKind.bits] using h

/-! ### The row's step -/
set_option maxRecDepth 100000 in
theorem lifted (os : Os) (started : os.Started) (H : Type) (enc : TypeId × Value → H) :
    ReturnsInHanded {} Try.checked os 3 .any (Rows.codecPutsSpec.pre6 enc Try.prog Try.f3 Rows.codecPutsRow.domain false) (Rows.codecPutsSpec.post enc Try.prog Try.f3 false true false false) := by
  refine returnsInHanded_of_change_sized (C := Try.checked) own started (by kernel_rfl) Try.func3
    (ChangeSpec.witness6 (enc := enc) (C := Try.checked) false ⟨#[], #[.slice none 0 0, .int .u64 0, .string ByteArray.empty], []⟩ 8 (by kernel_rfl) (by kernel_rfl) (by kernel_rfl) (by kernel_rfl)) ?_
  intro W base args ds gs before hval0 hW hcnd hsz0 _
  have hval : ∀ (j : Nat) t v, Try.f3.params[j]? = some t → args[j]? = some v → Value.okWide Try.prog W .any base t v := hval0
  have hsz : (DataW.weightsEach Try.prog (Try.f3.params.toList ++ Rows.codecPutsSpec.plain.varTypes Try.prog) (ds ++ gs)).all (· ≤ reachBytes) = true := hsz0
  have hW' := hW
  obtain ⟨p, q, hA0, hV, rfl, hfz, hnd⟩ := hW
  have hA : DataW.TrodAll enc Try.prog W 0 (fun _ => true) true Try.f3.params.toList args.toList ds p := hA0
  rw [Try.params3] at hA hval hsz
  obtain ⟨v0, vs0, d0, ds0, p0, q0, hargs, rfl, rfl, h0, r0⟩ := trodAll_cons hA
  obtain ⟨v1, vs1, d1, ds1, p1, q1, rfl, rfl, rfl, h1, r1⟩ := trodAll_cons r0
  obtain ⟨v2, vs2, d2, ds2, p2, q2, rfl, rfl, rfl, h2, r2⟩ := trodAll_cons r1
  obtain ⟨rfl, rfl, rfl⟩ := trodAll_nil r2
  obtain rfl : args = #[v0, v1, v2] := by cases args; simp_all
  obtain ⟨rfl, rfl⟩ := trodVars_none hV
  obtain ⟨a0, len0, cap0, rfl⟩ := okWide_slice Try.underlying22 (hval 0 22 v0 rfl rfl)
  have k0 := h0
  have lt0 : ∀ x ∈ p0, x.block < W.heap.size := by obtain ⟨m, hm⟩ := k0; exact DataW.trod_lt m _ _ _ hm
  obtain ⟨z0, w0, c0⟩ : ∃ zs, Rd.Bytes W a0 len0 cap0 zs ∧ cap0 ≤ 140737488351232 := by
    obtain ⟨fuel, hf⟩ := h0
    rcases open_ints Try.underlying22 Try.underlying5 (by kernel_rfl) hf with ⟨hcs, _⟩ | ⟨x, l, c, zs, hcs, _, hl, hm, hz, hx, hcell, hwz⟩
    · simp [Value.cells] at hcs
      obtain ⟨rfl, rfl, rfl⟩ := hcs
      exact ⟨[], Wr.nil_bytes W, by omega⟩
    · simp [Value.cells] at hcs
      obtain ⟨rfl, rfl, rfl⟩ := hcs
      have hd : d0 = .slice (lits .u8 (zs.take len0)) (lits .u8 (zs.drop len0)) := (Prod.mk.inj hx).1
      have hz' : zs.length = cap0 := by simpa using hz
      have sz := sized_slice hsz (j := 0) (t := 22) (e := 5) rfl (by rw [hd]; rfl) Try.underlying22
      rw [bytes5] at sz
      simp only [lits, List.length_map, List.length_take, List.length_drop, reachBytes] at sz
      refine ⟨zs.take len0, ⟨by rw [List.length_take]; omega, hl, fun e => by simp at e, fun y hy => u8_bd (hwz y (List.mem_of_mem_take hy)), ?_⟩, by omega⟩
      intro x' hx' j hj
      simp at hx'
      subst hx'
      rw [hcell j (by omega)]
      simp [List.getD_eq_getElem?_getD, hj]
  obtain ⟨a1, rfl, rfl, rfl, w1⟩ := open_int Try.underlying23 (hval 1 23 v1 rfl rfl) h1
  obtain ⟨a2, rfl, rfl, rfl, w2⟩ := open_string Try.underlying9 (hval 2 9 v2 rfl rfl) h2
  have c2 : a2.size ≤ 140737488351232 := by
    have sz := sized_string hsz (j := 2) (t := 9) rfl rfl
    simp only [reachBytes] at sz
    simpa using sz
  clear hA0 hval0
  refine (walk a0 len0 cap0 z0 a1 a2 W w0 c0 w1 c2).mono fun e W' ⟨he, bel⟩ => ?_
  subst he
  exact ⟨_, rfl, _, _, _, [], _, [], hW', trodAll_mk1 (shut_bool Try.underlying4 _), (trodAll_cons_mk (Below.trod laidOut (by kernel_rfl) (of_decide_eq_true (by kernel_rfl)) k0 bel lt0) (trodAll_cons_mk (shut_int Try.underlying23 w1) (trodAll_cons_mk (shut_string Try.underlying9 w2) trodAll_mk0))), rfl, bel.frame _, fun h => by cases h⟩

theorem over : Rows.codecPutsRow.holds Try.pinned (OpenSpec.ofChange Rows.codecPutsSpec) :=
  OpenClaim.holds_of_wide 3 Try.f3 rfl rfl rfl rfl rfl rfl rfl ⟨rfl, rfl, rfl, rfl, rfl⟩ rfl rfl rfl rfl rfl (by kernel_rfl) Try.func3 (by kernel_rfl)
    (of_decide_eq_true (by kernel_rfl)) (by unfold Func.isWrapper; first | (rw [if_pos (by decide +kernel)]; kernel_rfl) | (rw [if_neg (by decide +kernel)]; exact ⟨rfl, rfl⟩))
    (fun os started H enc _ => lifted os started H enc)
end Go.Proofs.Ytpinknkdcecajaa.codecPuts
namespace Go.Proofs.Ytpinknkdcecajaa
theorem codecPuts_holds : Rows.CodecPutsSaid := codecPuts.over
#print axioms codecPuts_holds
end Go.Proofs.Ytpinknkdcecajaa
