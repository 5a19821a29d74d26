/-
  The law's 'does', whatever the kind of the call. Each with its conditions in its own statement.
-/
import Derived.Test.YtmkejkmgpigmhaaDevPair3
namespace Go.Proofs.Ytmkejkmgpigmhaa
open Go.RowKit
open Go.Lib hiding intOf
set_option linter.unusedVariables false
set_option linter.unusedSimpArgs false

/-- What a call leaves of a state. -/
def nextS (S : DevS) (a : Act3) : DevS :=
  if a.kind % 9 = 3 then trS S a.n else if a.kind % 9 = 4 then syS S else if a.kind % 9 = 5 then S else if a.kind % 9 = 6 then crS S a.keep
  else if a.kind % 9 = 7 then { S with fuse := a.at_ } else if a.kind % 9 = 8 then wrS S a.n a.block else wrS S a.n (fillB a.block)
theorem wrS_ops (S : DevS) (n : Nat) (b : ByteArray) : (wrS S n b).ops ≤ S.ops + 1 ∧ (wrS S n b).cap = S.cap := by
  unfold wrS
  split
  · exact ⟨by omega, rfl⟩
  · split
    · exact ⟨by omega, rfl⟩
    · split
      · exact ⟨by omega, rfl⟩
      · exact ⟨Nat.le_refl _, rfl⟩
theorem trS_ops (S : DevS) (n : Nat) : (trS S n).ops ≤ S.ops + 1 ∧ (trS S n).cap = S.cap := by
  unfold trS
  split
  · exact ⟨by omega, rfl⟩
  · split
    · exact ⟨by omega, rfl⟩
    · exact ⟨Nat.le_refl _, rfl⟩
theorem syS_ops (S : DevS) : (syS S).ops ≤ S.ops + 1 ∧ (syS S).cap = S.cap := by
  unfold syS
  split
  · exact ⟨by omega, rfl⟩
  · exact ⟨Nat.le_refl _, rfl⟩
theorem nextS_ops (S : DevS) (a : Act3) : (nextS S a).ops ≤ S.ops + 1 ∧ (nextS S a).cap = S.cap := by
  unfold nextS
  repeat' split
  · exact trS_ops S a.n
  · exact syS_ops S
  · exact ⟨by omega, rfl⟩
  · exact ⟨Nat.le_succ _, rfl⟩
  · exact ⟨Nat.le_succ _, rfl⟩
  · exact wrS_ops S _ _
  · exact wrS_ops S _ _
theorem does_any {w : World} {F R : Nat → Prop} {g o : Nat} {S : DevS} (h : Both w F R g o S) (hops : S.ops + 1 ≤ 4294967296) (a : Act3) {B : Nat} (hB : B ≤ w.heap.size) (hF : ∀ k, F k → B ≤ k) (ha : ActOk w B a) :
    Calls Try.prog 29 #[.pointer (some ⟨g, 0, none⟩), .pointer (some ⟨o, 0, none⟩), .agg #[.int .i64 a.kind, .int .u32 a.n, .string a.block, .slice a.kA a.kn a.kc, .int .i64 a.at_]] w fun e w' => e = .returned (.bool true) ∧ Then w F R g o (nextS S a) w' := by
  have h9 : a.kind % 9 = 0 ∨ a.kind % 9 = 1 ∨ a.kind % 9 = 2 ∨ a.kind % 9 = 3 ∨ a.kind % 9 = 4 ∨ a.kind % 9 = 5 ∨ a.kind % 9 = 6 ∨ a.kind % 9 = 7 ∨ a.kind % 9 = 8 := by omega
  rcases h9 with hk | hk | hk | hk | hk | hk | hk | hk | hk
  · have e : nextS S a = wrS S a.n (fillB a.block) := by unfold nextS; simp [hk]
    rw [e]; exact does_wr h hops a (.inl hk) ha.n ha.block
  · have e : nextS S a = wrS S a.n (fillB a.block) := by unfold nextS; simp [hk]
    rw [e]; exact does_wr h hops a (.inr (.inl hk)) ha.n ha.block
  · have e : nextS S a = wrS S a.n (fillB a.block) := by unfold nextS; simp [hk]
    rw [e]; exact does_wr h hops a (.inr (.inr hk)) ha.n ha.block
  · have e : nextS S a = trS S a.n := by unfold nextS; simp [hk]
    rw [e]; exact does_tr h hops a hk ha.n
  · have e : nextS S a = syS S := by unfold nextS; simp [hk]
    rw [e]; exact does_sync h hops a hk
  · have e : nextS S a = S := by unfold nextS; simp [hk]
    rw [e]; exact does_rd h a hk ha.n
  · have e : nextS S a = crS S a.keep := by unfold nextS; simp [hk]
    rw [e]; exact does_cr h hops a hk hB hF ha.keep ha.kn
  · have e : nextS S a = { S with fuse := a.at_ } := by unfold nextS; simp [hk]
    rw [e]; exact does_fuse h a hk ha.lo ha.hi
  · have e : nextS S a = wrS S a.n a.block := by unfold nextS; simp [hk]
    rw [e]; exact does_wr8 h hops a hk ha.n
end Go.Proofs.Ytmkejkmgpigmhaa
