/- Name in general. -/
import Derived.Test.YtcjlgjlediihoaaDoorSk2
import Derived.Test.YtcjlgjlediihoaaDoorUq
import Derived.Lib.QuietBelow
import Derived.WalkSmall
import Derived.Lib.ItoaLen
namespace Go.Proofs.YtcjlgjlediihoaaDoor.Rw
open Go.ChangeShapes Go.WideShapes Go.ChangeAt Go.RowKit
open Go.Proofs.YtcjlgjlediihoaaDoor.Ut
open Go.Proofs.YtcjlgjlediihoaaDoor.By
set_option linter.unusedVariables false
set_option linter.unusedSimpArgs false

def Tb (w : World) : Prop := Lib.TabIs Tryd.prog w "internal/strconv.uint64pow10" .u64 Lib.pow10Tab
theorem tb_g : Tryd.prog.globalNamed "internal/strconv.uint64pow10" = some 3 := by kernel_rfl
theorem Tb.later {w w' : World} (h : Tb w) (b : Below w.heap.size w w') : Tb w' := by
  have hlt : 3 < w.heap.size := by
    rcases Nat.lt_or_ge 3 w.heap.size with h' | h'
    · exact h'
    · unfold Tb Lib.TabIs World.var? at h
      rw [tb_g] at h
      simp only [Option.bind_some] at h
      rw [Array.getElem?_eq_none h'] at h
      cases h
  exact var?_below b tb_g hlt h
/-- A number with the noughts of a name. -/
def pz (n : Nat) : List UInt8 := Lib.repeatL [48] (6 - (Lib.decDigits n).length) ++ Lib.decDigits n
set_option maxRecDepth 1000000 in
theorem digits_any (n : Nat) (hn : n ≤ 2147483647) (w : World) (T : Hid (Tb w)) : Calls Tryd.prog 29 #[.int .i64 (n : Int)] w fun e w' => e = .returned (.string ((⟨(pz n).toArray⟩ : ByteArray))) ∧ Below w.heap.size w w' := by
  have HI := hid (Sk.itoa_any (n : Int) (by omega) (by omega) w T.out)
  have hl := Lib.itoa_length_le (n : Int) (by omega) (by omega)
  rw [Lib.itoa_nonneg] at HI hl
  obtain ⟨ds, hds⟩ : ∃ ds : ByteArray, ds = ⟨(Lib.decDigits n).toArray⟩ := ⟨_, rfl⟩
  have hsz : ds.size = (Lib.decDigits n).length := by rw [hds]; simp [ByteArray.size]
  rw [← hds] at HI
  have hl2 : ds.size ≤ 21 := by omega
  obtain ⟨m, hm⟩ : ∃ m : Nat, m = 6 - ds.size := ⟨_, rfl⟩
  have HR : Hid (∀ W, Calls Tryd.prog 48 #[.string ⟨#[48]⟩, .int .i64 (m : Int)] W fun e w' => e = .returned (.string ⟨(Lib.repeatL [48] m).toArray⟩) ∧ Below W.heap.size W w') := fun W => by
    have h := Sk.repeat_any ⟨#[48]⟩ m W (by omega) (by have : (⟨#[48]⟩ : ByteArray).size = 1 := rfl; rw [this]; omega)
    exact h
  have hj : Hid ((⟨(Lib.repeatL [48] m).toArray⟩ : ByteArray) ++ ds = (⟨(pz n).toArray⟩ : ByteArray)) := by
    show _ = _
    rw [hds, pz, ← hsz, ← hm]
    apply ByteArray.ext
    rw [ByteArray.data_append]
    simp
  obtain ⟨rs, hrs⟩ : ∃ rs : ByteArray, rs = ⟨(Lib.repeatL [48] m).toArray⟩ := ⟨_, rfl⟩
  have hrz : rs.size = m := by
    rw [hrs]
    show (Lib.repeatL [48] m).toArray.size = m
    rw [List.size_toArray, Lib.repeatL_length]
    simp
  have hr6 : rs.size ≤ 6 := by omega
  rw [← hrs] at HR hj
  have hrzh := hid hrz
  clear hrz hrs
  have hmx : (max 0 (6 - (ds.size : Int))) = (m : Int) := by omega
  have hmh := hid hmx
  have hmh2 := hid hm
  have hszh := hid hsz
  clear hds hl hsz hmx hm T
  go_enter Tryd.func29, Tryd.ntmps29
  go_wp2_with fail
  refine HI.out.mono ?_
  rintro e w1 ⟨rfl, b1⟩
  have b1h := hid b1
  clear HI b1
  go_wp2_with fail
  rw [hmh.out]
  refine (HR.out _).mono ?_
  rintro e w2 ⟨rfl, b2⟩
  have b2h := hid (b1h.out.trans (b2.mono b1h.out.size))
  clear HR b2
  go_wp2_with fail
  go_ret
  exact ⟨by rw [← hj.out]; rfl, b2h.out⟩
end Go.Proofs.YtcjlgjlediihoaaDoor.Rw
