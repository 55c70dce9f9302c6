/- Contract of the law's helper that compares an answer with what it should be and writes over the answer: it returns true where they are alike, and writes to the answer's own memory alone. -/
import Derived.Test.YtpinknkdcecajaaWp
namespace Go.Proofs.Ytpinknkdcecajaa.Jn
open Go.ChangeShapes Go.WideShapes Go.ChangeAt Go.RowKit
open Go.Proofs.Ytpinknkdcecajaa.Rd (Bytes ret_int addr_add)
open Go.Proofs.Ytpinknkdcecajaa.Wr
open Go.Proofs.Ytpinknkdcecajaa.Ws
open Go.Proofs.Ytpinknkdcecajaa.Wp
set_option linter.unusedVariables false

theorem Row.set {w : World} {base g n c : Nat} {xs : List Int} (h : Row w base g n c xs) (k : Nat) : ∃ xs', Row (w.setCell ⟨g, k, none⟩ (.int .u8 238)) base g n c xs' ∧ w.grownBy (w.setCell ⟨g, k, none⟩ (.int .u8 238)) (some g) := by
  have := World.ownsRow.stored h k (.int .u8 238)
  refine ⟨xs.set k 238, ?_, this.2⟩
  unfold Row
  rw [List.map_set]
  exact this.1

set_option maxHeartbeats 1000000 in
theorem joined_any (base g n c : Nat) (xs : List Int) (a : Option Addr) (len cap : Nat) (zs : List Int) (a2 : Option Addr) (len2 cap2 : Nat) (ps : List Int) (w : World)
    (R : Row w base g n c xs) (H : Bytes w a len cap zs) (H2 : Bytes w a2 len2 cap2 ps) (he : xs = zs ++ ps) (hn : n ≤ 562949953421312) :
    Calls Try.prog 14 #[.slice (some ⟨g, 0, none⟩) n c, .slice a len cap, .slice a2 len2 cap2] w fun e w' => e = .returned (.bool true) ∧ w.grownBy w' (some g) := by
  have kA : Sem.run Try.prog (convert 22 9 (.slice (some ⟨g, 0, none⟩) n c)) w = .ok (.string (str xs)) w := R.conv
  have kB : Sem.run Try.prog (convert 22 9 (.slice a len cap)) w = .ok (.string (str zs)) w := Bytes.conv H
  have kC : Sem.run Try.prog (convert 22 9 (.slice a2 len2 cap2)) w = .ok (.string (str ps)) w := Bytes.conv H2
  have hxl := R.len
  have hle : len + len2 = n := by rw [he] at hxl; simp at hxl; have := H.1; have := H2.1; omega
  have hs1 := str_size zs
  have hs2 := str_size ps
  have hsum : (str zs).size + (str ps).size ≤ 9223372036854775807 := by rw [hs1, hs2, H.1, H2.1]; omega
  have hst : str zs ++ str ps = str xs := by rw [str_append, he]
  have HR : Hid (Row w base g n c xs) := R
  clear R H H2 he hs1 hs2 hxl
  go_enter Try.func14, Try.ntmps14
  go_wp2
  clear kA kB kC hsum hst hle
  go_loopw [8] (fun i wr => ∃ k : Nat, ∃ xs' : List Int, k ≤ n ∧ i = .int .i64 k ∧ Hid (Row wr base g n c xs') ∧ Hid (w.grownBy wr (some g))) (fun i _ => n - (intOf i).toNat)
  case atStart => exact ⟨0, xs, by omega, rfl, HR, World.grownBy.refl _ _⟩
  case round =>
    obtain ⟨k, xs', hk, rfl, hrow, hgr⟩ := hrel
    by_cases h : k < n
    · have hcell := hrow.out.cell k h
      have hfz : wr.frozen? ⟨g, k, none⟩ = false := World.ownsRow.frozenAt hrow.out k
      obtain ⟨xs2, R2, g2⟩ := Row.set hrow.out k
      have HR2 : Hid (Row (wr.setCell ⟨g, k, none⟩ (.int .u8 238)) base g n c xs2) := R2
      have HG2 : Hid (w.grownBy (wr.setCell ⟨g, k, none⟩ (.int .u8 238)) (some g)) := grown_trans hgr.out g2
      clear R2 g2 hrow hgr
      go_wp2
      go_roundw
      case rel => exact ⟨k + 1, xs2, by omega, by go_num, HR2, HG2⟩
      case measure => simp [intOf]; omega
    · have HG : Hid (w.grownBy wr (some g)) := hgr
      clear hrow hgr
      go_wp2
      go_ret
      exact ⟨rfl, HG.out⟩
end Go.Proofs.Ytpinknkdcecajaa.Jn
