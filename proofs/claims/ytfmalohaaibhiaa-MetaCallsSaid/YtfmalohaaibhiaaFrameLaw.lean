/-
  The example that each statement on package frame begins with.
-/
import Derived.Test.YtfmalohaaibhiaaFrameBody
namespace Go.Proofs.Ytfmalohaaibhiaa
open Go.RowKit
open Go.Lib
set_option linter.unusedVariables false
set_option linter.unusedSimpArgs false

/-- The body of the example's page: 104 times "b". -/
def bod : ByteArray := reps ⟨#[98]⟩ 104
theorem bod_size : bod.size = 104 := reps_lit_size 98 104
theorem bod_list : bod.data.toList = List.replicate 104 98 := by rw [bod, reps_list]; exact rep_one 98 104
def zb (n : Nat) : ByteArray := ⟨(List.replicate n (0 : UInt8)).toArray⟩
theorem zb_size (n : Nat) : (zb n).size = n := by rw [← size_list]; simp [zb]
theorem zb_list (n : Nat) : (zb n).data.toList = List.replicate n 0 := by simp [zb]
theorem zb_bad : ¬ leNat (List.take 4 (zb 128).data.toList) = crcM 0 (List.drop 4 (zb 128).data.toList) := by
  rw [zb_list]
  decide +kernel
theorem may_page : mayPg 128 4 3 7 9 5 bod = true := by
  simp [mayPg, bod_size, goodSize]
/-- What 'string(make([]byte, n))' comes to. -/
theorem run_zb (w : World) (n : Nat) : (convert 56 9 (.slice (some ⟨w.heap.size, 0, none⟩) n n)).run Try.prog (w.alloc (.cells (madeCells #[.int .u8 0] n) 5)) = .ok (.string (zb n)) (w.alloc (.cells (madeCells #[.int .u8 0] n) 5)) := by
  have h3 := (MRow.of_made w 5 n).reads
  rw [List.length_replicate] at h3
  exact run_string_reads _ 56 9 5 n Try.underlying56 Try.underlying5 Try.underlying9 h3
end Go.Proofs.Ytfmalohaaibhiaa
