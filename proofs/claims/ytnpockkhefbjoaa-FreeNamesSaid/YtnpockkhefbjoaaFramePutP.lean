/-
  Contract of package frame's Put: ErrArg for what is no valid page, the bytes of a valid page.
-/
import Derived.Test.YtnpockkhefbjoaaFramePut
import Derived.Deep.RegionHeld3
namespace Go.Proofs.Ytnpockkhefbjoaa
open Go.RowKit
open Go.Lib
set_option linter.unusedVariables false
set_option linter.unusedSimpArgs false
attribute [local go_sem ↓] Go.wp_at_zero Go.wp_at_succ

/-- What a page's checksum speaks of. -/
def restL (kd ct pg lk tx : Nat) (bd : ByteArray) : List UInt8 := headL kd ct pg lk tx ++ bd.data.toList
/-- A page's bytes. -/
def pageB (kd ct pg lk tx : Nat) (bd : ByteArray) : ByteArray := ⟨(leBytes 4 (crcM 0 (restL kd ct pg lk tx bd)) ++ restL kd ct pg lk tx bd).toArray⟩
theorem pageB_list (kd ct pg lk tx : Nat) (bd : ByteArray) : (pageB kd ct pg lk tx bd).data.toList = leBytes 4 (crcM 0 (restL kd ct pg lk tx bd)) ++ restL kd ct pg lk tx bd := by simp [pageB]
theorem restL_len (kd ct pg lk tx : Nat) (bd : ByteArray) : (restL kd ct pg lk tx bd).length = 20 + bd.size := by rw [restL, List.length_append, headL_len, size_list]
theorem pageB_size (kd ct pg lk tx : Nat) (bd : ByteArray) : (pageB kd ct pg lk tx bd).size = 24 + bd.size := by rw [← size_list, pageB_list, List.length_append, leB_len, restL_len]; omega

end Go.Proofs.Ytnpockkhefbjoaa
