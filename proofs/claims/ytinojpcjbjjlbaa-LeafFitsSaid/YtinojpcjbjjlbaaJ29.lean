/-
  Texts that the main proof rests on, put together: OwnW, RdTot, Ref6Set. No statement is proved here.
-/
import Derived.Test.YtinojpcjbjjlbaaJ21
import Derived.Laws.CopyRow
import Derived.Laws.AppendOwn
import Derived.Test.YtinojpcjbjjlbaaJ5
import Derived.Test.YtinojpcjbjjlbaaJ25
import Derived.Test.YtinojpcjbjjlbaaJ10
import Derived.Deep.CutRange
import Derived.Deep.RegionLaw
import Derived.Deep.DrawnRows
namespace Go.Proofs.Ytinojpcjbjjlbaa
open Go.RowKit
open Go.Lib
set_option linter.unusedVariables false
set_option linter.unusedSimpArgs false

theorem grown_setRow (w : World) (g : Nat) (cs : Array Value) : w.grownBy (w.setRow g cs) (some g) := ⟨rfl, rfl, rfl, by simp, fun k hk hne => setRow_other w g k cs (fun h => hne (by rw [h]))⟩
theorem grown_trans {a b c : World} {r : Option Nat} (h1 : a.grownBy b r) (h2 : b.grownBy c r) : a.grownBy c r :=
  ⟨h2.os.trans h1.os, h2.tape.trans h1.tape, h2.output.trans h1.output, Nat.le_trans h1.size h2.size, fun k hk hne => (h2.block k (Nat.lt_of_lt_of_le hk h1.size) hne).trans (h1.block k hk hne)⟩
theorem grown_drew (w : World) (r : Option Nat) : w.grownBy w.drew r := ⟨rfl, rfl, rfl, Nat.le_refl _, fun _ _ _ => rfl⟩
theorem grown_of_below {w w' : World} (h : Below w.heap.size w w') : w.grownBy w' none := ⟨h.os, h.tape, h.output, h.size, fun k hk _ => h.block k hk⟩
theorem own_below {w w' : World} {base : Nat} {e : TypeId} {size : Nat} {v : Value} {n : Nat} {xs : List Value} (ho : w.ownsRow base e size v n xs) (h : Below w.heap.size w w') : w'.ownsRow base e size v n xs :=
  ho.kept (grown_of_below h) (by rcases v.ownBlock with _ | g <;> simp)
theorem own_type {w : World} {base : Nat} {e : TypeId} {size : Nat} {v : Value} {n : Nat} {xs : List Value} (ho : w.ownsRow base e size v n xs) {g : Nat} {t : TypeId} {cs : Array Value} (hB : Blk w g t cs) (hne : t ≠ e) : some g ≠ v.ownBlock := by
  rcases ho.2 with ⟨rfl, _⟩ | ⟨g', cap, cur, rfl, _, hg', _⟩
  · simp [Value.ownBlock]
  · intro h
    simp [Value.ownBlock] at h
    exact Blk.ne_ hB hg' hne h
theorem grown_cell {w w' : World} {r : Option Nat} (h : w.grownBy w' r) {p : Addr} (hp : w.heap.size ≤ p.block) (v : Value) : w.grownBy (w'.setCell p v) r :=
  ⟨h.os, h.tape, h.output, by simpa [World.setCell] using h.size, fun k hk hne => (Below.heap_setCell _ _ _ _ (by omega)).trans (h.block k hk hne)⟩
theorem own_apart {w : World} {base : Nat} {e : TypeId} {size : Nat} {v : Value} {n : Nat} {xs : List Value} (h : w.ownsRow base e size v n xs) {g : Nat} (hg : g < base) : v.ownBlock = none ∨ v.ownBlock ≠ some g := by
  rcases hv : v.ownBlock with _ | k
  · exact .inl rfl
  · refine .inr fun he => ?_
    injection he with he
    have := (h.lt k hv).1
    omega
theorem own_ne {w : World} {base : Nat} {e : TypeId} {size : Nat} {v : Value} {n : Nat} {xs : List Value} (h : w.ownsRow base e size v n xs) {g : Nat} (hg : g < base) : some g ≠ v.ownBlock := fun he => by
  have := (h.lt g he.symm).1
  omega
theorem list_one {l : List UInt8} (h : 1 ≤ l.length) : ∃ b t, l = b :: t := by
  cases l with
  | nil => simp at h
  | cons b t => exact ⟨b, t, rfl⟩
end Go.Proofs.Ytinojpcjbjjlbaa
namespace Go.Proofs.Ytinojpcjbjjlbaa
open Go.RowKit
open Go.Lib
set_option linter.unusedVariables false
set_option linter.unusedSimpArgs false

/-- A number is taken off a reader, or it is too short, and nothing is. -/
def tookN (k : Nat) (t : ByteArray) (v : Nat) (x : Int) (t' : ByteArray) : Prop := (k ≤ t.size ∧ x = 0 ∧ v = leNat (t.data.toList.take k) ∧ t' = t.extract k t.size) ∨ (t.size < k ∧ x = 7 ∧ t' = t)
theorem cnum_tot {w : World} {g : Nat} {t : ByteArray} (h : IsRd w g t) (k : Nat) (h1 : 1 ≤ k) (h2 : k ≤ 8) :
    Calls Try.prog 49 #[.pointer (some ⟨g, 0, none⟩), .int .i64 k] w fun e w' => ∃ (v : Nat) (x : Int) (t' : ByteArray), e = .returned (.tuple #[.int .u64 v, .int .i64 x]) ∧ IsRd w' g t' ∧ w.grownBy w' (some g) ∧ v < 2 ^ (8 * k) ∧ tookN k t v x t' := by
  by_cases hk : k ≤ t.size
  · refine (number_ok' h k h1 h2 hk).mono ?_
    rintro e w' ⟨rfl, hr, hg⟩
    refine ⟨_, _, _, rfl, hr, hg, ?_, .inl ⟨hk, rfl, rfl, rfl⟩⟩
    have h3 := leNat_lt (t.data.toList.take k)
    have h4 : (t.data.toList.take k).length ≤ k := by rw [List.length_take]; omega
    exact Nat.lt_of_lt_of_le h3 (Nat.pow_le_pow_right (by omega) (by omega))
  · refine (number_more h k (by omega) (by omega) (by omega)).mono ?_
    rintro e w' ⟨rfl, rfl⟩
    exact ⟨0, 7, t, rfl, h, World.grownBy.refl _ _, Nat.two_pow_pos _, .inr ⟨by omega, rfl, rfl⟩⟩
def tookB (k : Nat) (t v : ByteArray) (x : Int) (t' : ByteArray) : Prop := (k ≤ t.size ∧ x = 0 ∧ v = t.extract 0 k ∧ t' = t.extract k t.size) ∨ (t.size < k ∧ x = 7 ∧ t' = t)
theorem cbytes_tot {w : World} {g : Nat} {t : ByteArray} (h : IsRd w g t) (k : Nat) :
    Calls Try.prog 57 #[.pointer (some ⟨g, 0, none⟩), .int .i64 k] w fun e w' => ∃ (v : ByteArray) (x : Int) (t' : ByteArray), e = .returned (.tuple #[.string v, .int .i64 x]) ∧ IsRd w' g t' ∧ w.grownBy w' (some g) ∧ tookB k t v x t' := by
  by_cases hk : k ≤ t.size
  · refine (bytes_ok' h k hk).mono ?_
    rintro e w' ⟨rfl, hr, hg⟩
    exact ⟨_, _, _, rfl, hr, hg, .inl ⟨hk, rfl, rfl, rfl⟩⟩
  · refine (bytes_more h k (by omega)).mono ?_
    rintro e w' ⟨rfl, rfl⟩
    exact ⟨_, _, t, rfl, h, World.grownBy.refl _ _, .inr ⟨by omega, rfl, rfl⟩⟩
theorem ext_take (t : ByteArray) (k : Nat) : (t.extract 0 k).data.toList = t.data.toList.take k := by simp
theorem ext_drop (t : ByteArray) (k : Nat) : (t.extract k t.size).data.toList = t.data.toList.drop k := by
  have h : t.data.size = t.data.toList.length := by simp
  rw [ByteArray.data_extract, Array.toList_extract, List.extract_eq_take_drop, List.take_of_length_le]
  rw [List.length_drop]
  show _ ≤ t.data.size - k
  omega
theorem leNat_one (n : UInt8) : leNat [n] = n.toNat := by simp [leNat]
theorem rnum_tot {w : World} {g : Nat} {t : ByteArray} (h : IsRf w g t) (k : Nat) (h1 : 1 ≤ k) (h2 : k ≤ 8) :
    Calls Try.prog 41 #[.pointer (some ⟨g, 0, none⟩), .int .i64 k] w fun e w' => ∃ (v : Nat) (x : Int) (t' : ByteArray), e = .returned (.tuple #[.int .u64 v, .int .i64 x]) ∧ IsRf w' g t' ∧ w.grownBy w' (some g) ∧ v < 2 ^ (8 * k) ∧ tookN k t v x t' := by
  by_cases hk : k ≤ t.size
  · refine (rnumber_ok' h k h1 h2 hk).mono ?_
    rintro e w' ⟨rfl, hr, hg⟩
    refine ⟨_, _, _, rfl, hr, hg, ?_, .inl ⟨hk, rfl, rfl, rfl⟩⟩
    have h3 := leNat_lt (t.data.toList.take k)
    have h4 : (t.data.toList.take k).length ≤ k := by rw [List.length_take]; omega
    exact Nat.lt_of_lt_of_le h3 (Nat.pow_le_pow_right (by omega) (by omega))
  · refine (rnumber_more h k (by omega) (by omega) (by omega)).mono ?_
    rintro e w' ⟨rfl, rfl⟩
    exact ⟨0, 7, t, rfl, h, World.grownBy.refl _ _, Nat.two_pow_pos _, .inr ⟨by omega, rfl, rfl⟩⟩
theorem rby_tot {w : World} {g : Nat} {t : ByteArray} (h : IsRf w g t) (k : Nat) :
    Calls Try.prog 42 #[.pointer (some ⟨g, 0, none⟩), .int .i64 k] w fun e w' => ∃ (v : ByteArray) (x : Int) (t' : ByteArray), e = .returned (.tuple #[.string v, .int .i64 x]) ∧ IsRf w' g t' ∧ w.grownBy w' (some g) ∧ tookB k t v x t' := by
  by_cases hk : k ≤ t.size
  · refine (rbytes_ok' h k hk).mono ?_
    rintro e w' ⟨rfl, hr, hg⟩
    exact ⟨_, _, _, rfl, hr, hg, .inl ⟨hk, rfl, rfl, rfl⟩⟩
  · refine (rbytes_more h k (by omega)).mono ?_
    rintro e w' ⟨rfl, rfl⟩
    exact ⟨_, _, t, rfl, h, World.grownBy.refl _ _, .inr ⟨by omega, rfl, rfl⟩⟩
end Go.Proofs.Ytinojpcjbjjlbaa
namespace Go.Proofs.Ytinojpcjbjjlbaa
open Go.RowKit
open Go.Lib hiding intOf
set_option linter.unusedVariables false
set_option linter.unusedSimpArgs false
attribute [local go_sem ↓] Go.wp_at_zero Go.wp_at_succ

theorem bkc_one (l : List Bk) : ∀ u ∈ bkc l, u.oneCell' = true := by
  intro u hu
  obtain ⟨b, _, hb⟩ := List.mem_flatMap.1 hu
  simp only [Bk.cells, List.mem_cons, List.not_mem_nil, or_false] at hb
  rcases hb with rfl | rfl | rfl <;> rfl
theorem bk_one (b : Bk) : ∀ u ∈ b.cells, u.oneCell' = true := fun u hu => bkc_one [b] u (by simpa [bkc, rowsOf] using hu)
/-- A block of the call's own, read as rows. -/
theorem reads_own {w : World} {g k n : Nat} {t : TypeId} {cs : Array Value} (h : Blk w g t cs) (hs : cs.size = n * k) : Reads w (g + 1) k (some ⟨g, 0, none⟩) n cs.toList := by
  refine ⟨by simp [hs], fun _ => ⟨_, rfl, Nat.lt_succ_self _, fun j u hu => ?_⟩⟩
  have e : (⟨g, 0, none⟩ : Addr).add j = ⟨g, j, none⟩ := by unfold Addr.add; split <;> simp_all
  rw [e, h.cell j]
  simpa using hu
end Go.Proofs.Ytinojpcjbjjlbaa
