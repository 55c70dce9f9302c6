/- Read of a whole file; the law's own bytes. -/
import Derived.Test.YtgffojafdjcdoaaCl
namespace Go.Proofs.Ytgffojafdjcdoaa.Rd
open Go.ChangeShapes Go.WideShapes Go.ChangeAt Go.RowKit Go.Maps Go.Sort
open Go.Proofs.Ytgffojafdjcdoaa.By
open Go.Proofs.Ytgffojafdjcdoaa.Ln
open Go.Proofs.Ytgffojafdjcdoaa.Mp
open Go.Proofs.Ytgffojafdjcdoaa.Dk
open Go.Proofs.Ytgffojafdjcdoaa.Df
open Go.Proofs.Ytgffojafdjcdoaa.Dh
open Go.Proofs.Ytgffojafdjcdoaa.Bc
open Go.Proofs.Ytgffojafdjcdoaa.Cl
set_option linter.unusedVariables false
set_option linter.unusedSimpArgs false

set_option maxRecDepth 10000 in
set_option maxHeartbeats 1000000 in
theorem read_ok {base g b : Nat} {P : Nat → Prop} {S : St} (s : ByteArray) (hs : s.size ≤ 9223372036854775807) (w : World) (H : Disk w base g b P S) (h0 : (fnd S s).2 = 0) :
    Calls Try.prog 18 #[.pointer (some ⟨g, 0, none⟩), .string s, .int .i64 0, .int .i64 (((fnd S s).1.zs.length : Nat) : Int)] w fun e w' => ∃ v, e = .returned (.tuple #[v, .int .i64 0]) ∧ w'.ownsRow w.heap.size 5 1 v (fnd S s).1.zs.length ((fnd S s).1.zs.map (Value.int .u8)) ∧ Below w.heap.size w w' := by
  have HF := hid (find_any s hs w H)
  obtain ⟨_, hsk⟩ := fnd_ok h0
  have hmem := seek_mem hsk
  have hu := used_le_len H hsk
  obtain ⟨a, c, hsl, HB⟩ := own_bytes (H.mem.row _ hmem) (H.mem.bytes _ hmem)
  simp only at hsl HB
  have hval : (fnd S s).1.val = .agg #[.slice a (fnd S s).1.zs.length c, .int .i64 (((fnd S s).1.k : Nat) : Int)] := by unfold Fl.val; rw [hsl]
  rw [hval, h0] at HF
  generalize (fnd S s).1.zs = zs at *
  generalize (fnd S s).1.k = k at *
  have hcap := HB.2.1
  generalize hn : zs.length = n at *
  replace HB := hid HB
  replace hn := hid hn
  clear H hsk hmem hsl hval h0
  have hn2 : n ≤ 268435456 := hu
  go_enter Try.func18, Try.ntmps18
  go_wp2_with fail
  refine HF.out.mono ?_
  rintro e w1 ⟨rfl, b1⟩
  have HB1 := hid (bytes_kept HB.out (b1.trans ((box_below w1 (.cells #[.slice a n c, .int .i64 (k : Int)] 83)).mono b1.size)))
  have B1 := hid (b1.alloc b1.size (.cells #[.slice a n c, .int .i64 (k : Int)] 83))
  have HC := hid (clone_bytes a n c zs _ HB1.out (by omega))
  replace b1 := hid b1
  have mn : min (n : Int) ((n : Int) - 0) = (n : Int) := by omega
  cases a with
  | none =>
    obtain ⟨rfl, rfl⟩ := HB.out.2.2.1 rfl
    go_wp2_with fail
    refine HC.out.mono ?_
    rintro e w2 ⟨v, rfl, o2, b2⟩
    replace o2 := hid o2
    have B2 := hid (B1.out.trans (b2.mono B1.out.size))
    go_wp2_with fail
    go_ret2
    exact ⟨v, rfl, own_base o2.out B1.out.size, B2.out⟩
  | some ad =>
    go_wp2_with fail
    refine HC.out.mono ?_
    rintro e w2 ⟨v, rfl, o2, b2⟩
    replace o2 := hid o2
    have B2 := hid (B1.out.trans (b2.mono B1.out.size))
    go_wp2_with fail
    go_ret2
    exact ⟨v, rfl, own_base o2.out B1.out.size, B2.out⟩
theorem str_bytes {w : World} {base n : Nat} {v : Value} {zs : List Int} (h : w.ownsRow base 5 1 v n (zs.map (Value.int .u8))) (hn : zs.length = n) (hb : ∀ y ∈ zs, 0 ≤ y ∧ y ≤ 255) : ∃ a c, v = .slice a n c ∧ Sem.run Try.prog (convert 32 9 (.slice a n c)) w = .ok (.string (str zs)) w := by
  subst hn
  obtain ⟨a, c, e, hB⟩ := own_bytes (f := ⟨v, zs, 0⟩) h hb
  exact ⟨a, c, e, Bytes.conv hB⟩
set_option maxRecDepth 10000 in
set_option maxHeartbeats 1000000 in
theorem bytes_any {base g b : Nat} {P : Nat → Prop} {S : St} (s : ByteArray) (hs : s.size ≤ 9223372036854775807) (w : World) (H : Disk w base g b P S) (h0 : (fnd S s).2 = 0) :
    Calls Try.prog 25 #[.pointer (some ⟨g, 0, none⟩), .string s] w fun e w' => e = .returned (.string (str (fnd S s).1.zs)) ∧ Below w.heap.size w w' := by
  have HZ := hid (size_any s hs w H)
  have HR := hid (fun W (h : Below w.heap.size w W) => read_ok s hs W (H.later h) h0)
  obtain ⟨_, hsk⟩ := fnd_ok h0
  have hb := hid (H.mem.bytes _ (seek_mem hsk))
  clear H hsk h0
  generalize hz : (fnd S s).1.zs = zs at *
  generalize (fnd S s).1.k = k at *
  generalize (fnd S s).2 = e2 at *
  replace hz := hid hz
  generalize hn : zs.length = n at *
  replace hn := hid hn
  go_enter Try.func25, Try.ntmps25
  go_wp2_with fail
  refine HZ.out.mono ?_
  rintro e w1 ⟨rfl, b1⟩
  replace b1 := hid b1
  go_wp2_with fail
  refine (HR.out w1 b1.out).mono ?_
  rintro e w2 ⟨v, rfl, o2, b2⟩
  obtain ⟨a, c, rfl, hc⟩ := str_bytes o2 hn.out hb.out
  have B2 := hid (b1.out.trans (b2.mono b1.out.size))
  replace o2 := hid o2
  replace b2 := hid b2
  go_wp2_with fail
  go_ret
  exact ⟨rfl, B2.out⟩
end Go.Proofs.Ytgffojafdjcdoaa.Rd
