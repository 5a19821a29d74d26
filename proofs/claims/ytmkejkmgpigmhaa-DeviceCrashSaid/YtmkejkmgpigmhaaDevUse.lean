/-
  Contracts of a device's methods in the forms that the statements' walks use, each with its conditions in its own statement.
-/
import Derived.Test.YtmkejkmgpigmhaaDevLaw
namespace Go.Proofs.Ytmkejkmgpigmhaa
open Go.RowKit
open Go.Lib hiding intOf
set_option linter.unusedVariables false
set_option linter.unusedSimpArgs false

theorem grow_ge {F : Nat → Prop} {w w' : World} {B : Nat} (hF : ∀ j, F j → B ≤ j) (hB : B ≤ w.heap.size) : ∀ j, Grow F w w' j → B ≤ j := by
  rintro j (h | ⟨h, _⟩)
  · exact hF j h
  · omega
theorem reads_blk {w : World} {g : Nat} {t : TypeId} {cs : Array Value} (h : Blk w g t cs) : Reads w (g + 1) 1 (some ⟨g, 0, none⟩) cs.size cs.toList := by
  refine ⟨by simp, fun _ => ⟨_, rfl, Nat.lt_succ_self _, fun j u hu => ?_⟩⟩
  have e : (⟨g, 0, none⟩ : Addr).add j = ⟨g, j, none⟩ := by unfold Addr.add; split <;> simp_all
  rw [e, h.cell j]
  simpa using hu
/-- 'string([]byte{b})'. -/
theorem conv_one (b : UInt8) {w : World} {g : Nat} {t : TypeId} (h : Blk w g t #[.int .u8 b.toNat]) :
    (convert 57 9 (.slice (some ⟨g, 0, none⟩) 1 1)).run Try.prog w = .ok (.string ⟨#[b]⟩) w :=
  run_string_reads w 57 9 5 1 (l := [b]) Try.underlying57 Try.underlying5 Try.underlying9 (reads_blk h)

theorem dtrunc_no {w : World} {F : Nat → Prop} {g : Nat} {S : DevS} (h : Dev w F g S) (n : Nat) (hn : n ≤ S.cap) (hf : S.fuse = 0) (hops : S.ops ≤ 4294967296) :
    Calls Try.prog 14 #[.pointer (some ⟨g, 0, none⟩), .int .u32 n] w fun e w' => e = .returned (.int .i64 8) ∧ Below w.heap.size w w' :=
  dtrunc_go h n hn (fun _ w' hb' => ⟨rfl, hb'⟩) (fun h' => absurd hf h') (by rw [hf]; decide) (by rw [hf]; decide) hops
theorem dtrunc_yes {w : World} {F : Nat → Prop} {g : Nat} {S : DevS} (h : Dev w F g S) (n : Nat) (hn : n ≤ S.cap) (hf : S.fuse ≠ 0) (hlo : -9223372036854775808 ≤ S.fuse) (hhi : S.fuse ≤ 9223372036854775807) (hops : S.ops ≤ 4294967296) :
    Calls Try.prog 14 #[.pointer (some ⟨g, 0, none⟩), .int .u32 n] w fun e w' => e = .returned (.int .i64 0) ∧ Dev w' (Grow F w w') g { S with img := bCut S.size n S.img, pend := S.pend ++ [.tr n], fuse := burn S.fuse, ops := S.ops + 1 } ∧ Kept F w w' :=
  dtrunc_go h n hn (fun h' => absurd h' hf) (fun _ w' h1 h2 => ⟨rfl, h1, h2⟩) hlo hhi hops
section
variable {w : World} {F : Nat → Prop} {g : Nat} {S : DevS}
theorem image_is (h : Dev w F g S) {I : ByteArray} (hI : S.img = I.data.toList) :
    Calls Try.prog 18 #[.pointer (some ⟨g, 0, none⟩)] w fun e w' => e = .returned (.string I) ∧ Below w.heap.size w w' := by
  have := dimage_any h
  rw [hI, mk_list] at this
  exact this
theorem durable_is (h : Dev w F g S) {I : ByteArray} (hI : S.dur = I.data.toList) :
    Calls Try.prog 20 #[.pointer (some ⟨g, 0, none⟩)] w fun e w' => e = .returned (.string I) ∧ Below w.heap.size w w' := by
  have := ddurable_any h
  rw [hI, mk_list] at this
  exact this
theorem pending_is (h : Dev w F g S) {n : Nat} (hn : S.pend.length = n) :
    Calls Try.prog 15 #[.pointer (some ⟨g, 0, none⟩)] w fun e w' => e = .returned (.int .i64 n) ∧ w = w' := by
  have := dpending_any h
  rw [hn] at this
  exact this
theorem sync_is (h : Dev w F g S) (hf : S.fuse ≠ 0) (hlo : -9223372036854775808 ≤ S.fuse) (hhi : S.fuse ≤ 9223372036854775807) (hops : S.ops ≤ 4294967296) {l : List UInt8} (hl : allOn S.size S.pend S.dur = l) :
    Calls Try.prog 17 #[.pointer (some ⟨g, 0, none⟩)] w fun e w' => e = .returned (.int .i64 0) ∧ Dev w' (Grow F w w') g { S with dur := l, pend := [], fuse := burn S.fuse, ops := S.ops + 1 } ∧ Kept F w w' := by
  have := dsync_yes h hf hlo hhi hops
  rw [hl] at this
  exact this
end

theorem dwrite_no {w : World} {F : Nat → Prop} {g : Nat} {S : DevS} (h : Dev w F g S) (n : Nat) (b : ByteArray) (hb : b.size = S.size) (hn : n < S.cap) (hf : S.fuse = 0) (hops : S.ops ≤ 4294967296) :
    Calls Try.prog 13 #[.pointer (some ⟨g, 0, none⟩), .int .u32 n, .string b] w fun e w' => e = .returned (.int .i64 8) ∧ Below w.heap.size w w' :=
  dwrite_go h n b hb hn (fun _ w' hb' => ⟨rfl, hb'⟩) (fun h' => absurd hf h') (by rw [hf]; decide) (by rw [hf]; decide) hops
theorem dwrite_yes {w : World} {F : Nat → Prop} {g : Nat} {S : DevS} (h : Dev w F g S) (n : Nat) (b : ByteArray) (hb : b.size = S.size) (hn : n < S.cap) (hf : S.fuse ≠ 0) (hlo : -9223372036854775808 ≤ S.fuse) (hhi : S.fuse ≤ 9223372036854775807) (hops : S.ops ≤ 4294967296) :
    Calls Try.prog 13 #[.pointer (some ⟨g, 0, none⟩), .int .u32 n, .string b] w fun e w' => e = .returned (.int .i64 0) ∧ Dev w' (Grow F w w') g { S with img := bWrite S.size n b.data.toList S.img, pend := S.pend ++ [.wr n b], fuse := burn S.fuse, ops := S.ops + 1 } ∧ Kept F w w' :=
  dwrite_go h n b hb hn (fun h' => absurd h' hf) (fun _ w' h1 h2 => ⟨rfl, h1, h2⟩) hlo hhi hops

theorem read_is {w : World} {F : Nat → Prop} {g : Nat} {S : DevS} (h : Dev w F g S) (k : Nat) (hk : k < S.img.length / S.size) {p : ByteArray} (hp : (S.img.drop (k * S.size)).take S.size = p.data.toList) :
    Calls Try.prog 12 #[.pointer (some ⟨g, 0, none⟩), .int .u32 k] w fun e w' => e = .returned (.tuple #[.string p, .int .i64 0]) ∧ w = w' := by
  have := dread_ok h k hk
  rw [hp, mk_list] at this
  exact this
end Go.Proofs.Ytmkejkmgpigmhaa
