/-
  Contracts of the device's and the reference's methods in one form, whatever the arguments: what is answered (wrE, trE, syE) and what is left (wrS, trS, syS); each with its conditions in its own statement.
-/
import Derived.Test.YtmkejkmgpigmhaaDevRefCrash
namespace Go.Proofs.Ytmkejkmgpigmhaa
open Go.RowKit
open Go.Lib hiding intOf
set_option linter.unusedVariables false
set_option linter.unusedSimpArgs false

def wrE (S : DevS) (n : Nat) (b : ByteArray) : Int := if b.size ≠ 128 then 2 else if S.cap ≤ n then 9 else if S.fuse = 0 then 8 else 0
def wrS (S : DevS) (n : Nat) (b : ByteArray) : DevS := if b.size ≠ 128 then S else if S.cap ≤ n then S else if S.fuse = 0 then S else { S with img := bWrite 128 n b.data.toList S.img, pend := S.pend ++ [.wr n b], fuse := burn S.fuse, ops := S.ops + 1 }
def trE (S : DevS) (n : Nat) : Int := if S.cap < n then 2 else if S.fuse = 0 then 8 else 0
def trS (S : DevS) (n : Nat) : DevS := if S.cap < n then S else if S.fuse = 0 then S else { S with img := bCut 128 n S.img, pend := S.pend ++ [.tr n], fuse := burn S.fuse, ops := S.ops + 1 }
def syE (S : DevS) : Int := if S.fuse = 0 then 8 else 0
def syS (S : DevS) : DevS := if S.fuse = 0 then S else { S with dur := S.img, pend := [], fuse := burn S.fuse, ops := S.ops + 1 }
/-- What both hold of a state. -/
structure Fair (S : DevS) : Prop where
  sz : S.size = 128
  all : allOn 128 S.pend S.dur = S.img
  lo : -9223372036854775808 ≤ S.fuse
  hi : S.fuse ≤ 9223372036854775807
  ops : S.ops ≤ 4294967296
section
variable {w w' : World} {F : Nat → Prop} {g : Nat} {S : DevS}
theorem Dev.grown (h : Dev w F g S) (hb : Below w.heap.size w w') : Dev w' (Grow F w w') g S := (h.new hb).wide (fun k hk => .inl hk) (grow_lt h.lt hb.size)
theorem Ref.grown (h : Ref w F g S) (hb : Below w.heap.size w w') : Ref w' (Grow F w w') g S := (h.new hb).wide (fun k hk => .inl hk) (grow_lt h.lt hb.size)
theorem dwr_any (h : Dev w F g S) (hf : Fair S) (n : Nat) (b : ByteArray) :
    Calls Try.prog 13 #[.pointer (some ⟨g, 0, none⟩), .int .u32 n, .string b] w fun e w' => e = .returned (.int .i64 (wrE S n b)) ∧ Dev w' (Grow F w w') g (wrS S n b) ∧ Kept F w w' := by
  unfold wrE wrS
  by_cases h1 : b.size = 128
  · rw [if_neg (show ¬ b.size ≠ 128 from fun h => h h1), if_neg (show ¬ b.size ≠ 128 from fun h => h h1)]
    by_cases h2 : S.cap ≤ n
    · rw [if_pos h2, if_pos h2]
      exact (dwrite_full h n b (by rw [hf.sz]; exact h1) h2).mono fun e w' ⟨he, hb⟩ => ⟨he, h.grown hb, Kept.of_new hb⟩
    · rw [if_neg h2, if_neg h2]
      by_cases h3 : S.fuse = 0
      · rw [if_pos h3, if_pos h3]
        exact (dwrite_no h n b (by rw [hf.sz]; exact h1) (by omega) h3 hf.ops).mono fun e w' ⟨he, hb⟩ => ⟨he, h.grown hb, Kept.of_new hb⟩
      · rw [if_neg h3, if_neg h3]
        have := dwrite_yes h n b (by rw [hf.sz]; exact h1) (by omega) h3 hf.lo hf.hi hf.ops
        rw [hf.sz] at this
        refine this.mono fun e w' ⟨he, hd, hk⟩ => ⟨he, ?_, hk⟩
        simpa [hf.sz] using hd
  · rw [if_pos (show b.size ≠ 128 from h1), if_pos (show b.size ≠ 128 from h1)]
    exact (dwrite_arg h n b (by rw [hf.sz]; exact h1)).mono fun e w' ⟨he, hb⟩ => ⟨he, h.grown hb, Kept.of_new hb⟩
theorem rwr_any (h : Ref w F g S) (hf : Fair S) (n : Nat) (b : ByteArray) (hn : n ≤ 4294967295) :
    Calls Try.prog 46 #[.pointer (some ⟨g, 0, none⟩), .int .u32 n, .string b] w fun e w' => e = .returned (.int .i64 (wrE S n b)) ∧ Ref w' (Grow F w w') g (wrS S n b) ∧ Kept F w w' := by
  unfold wrE wrS
  by_cases h1 : b.size = 128
  · rw [if_neg (show ¬ b.size ≠ 128 from fun h => h h1), if_neg (show ¬ b.size ≠ 128 from fun h => h h1)]
    by_cases h2 : S.cap ≤ n
    · rw [if_pos h2, if_pos h2]
      exact (rwrite_full h n b h1 h2 hn).mono fun e w' ⟨he, hb⟩ => ⟨he, h.grown (hb ▸ Below.refl _ _), hb ▸ Kept.refl _ _⟩
    · rw [if_neg h2, if_neg h2]
      by_cases h3 : S.fuse = 0
      · rw [if_pos h3, if_pos h3]
        exact (rwrite_no h n b h1 (by omega) h3).mono fun e w' ⟨he, hb⟩ => ⟨he, h.grown hb, Kept.of_new hb⟩
      · rw [if_neg h3, if_neg h3]
        exact rwrite_yes h n b h1 (by omega) h3 hf.hi hf.ops
  · rw [if_pos (show b.size ≠ 128 from h1), if_pos (show b.size ≠ 128 from h1)]
    exact (rwrite_arg h n b h1).mono fun e w' ⟨he, hb⟩ => ⟨he, h.grown (hb ▸ Below.refl _ _), hb ▸ Kept.refl _ _⟩
theorem dtr_any (h : Dev w F g S) (hf : Fair S) (n : Nat) :
    Calls Try.prog 14 #[.pointer (some ⟨g, 0, none⟩), .int .u32 n] w fun e w' => e = .returned (.int .i64 (trE S n)) ∧ Dev w' (Grow F w w') g (trS S n) ∧ Kept F w w' := by
  unfold trE trS
  by_cases h2 : S.cap < n
  · rw [if_pos h2, if_pos h2]
    exact (dtrunc_arg h n h2).mono fun e w' ⟨he, hb⟩ => ⟨he, h.grown hb, Kept.of_new hb⟩
  · rw [if_neg h2, if_neg h2]
    by_cases h3 : S.fuse = 0
    · rw [if_pos h3, if_pos h3]
      exact (dtrunc_no h n (by omega) h3 hf.ops).mono fun e w' ⟨he, hb⟩ => ⟨he, h.grown hb, Kept.of_new hb⟩
    · rw [if_neg h3, if_neg h3]
      have := dtrunc_yes h n (by omega) h3 hf.lo hf.hi hf.ops
      refine this.mono fun e w' ⟨he, hd, hk⟩ => ⟨he, ?_, hk⟩
      simpa [hf.sz] using hd
theorem rtr_any (h : Ref w F g S) (hf : Fair S) (n : Nat) (hn : n ≤ 4294967295) :
    Calls Try.prog 47 #[.pointer (some ⟨g, 0, none⟩), .int .u32 n] w fun e w' => e = .returned (.int .i64 (trE S n)) ∧ Ref w' (Grow F w w') g (trS S n) ∧ Kept F w w' := by
  unfold trE trS
  by_cases h2 : S.cap < n
  · rw [if_pos h2, if_pos h2]
    exact (rtrunc_arg h n h2 hn).mono fun e w' ⟨he, hb⟩ => ⟨he, h.grown (hb ▸ Below.refl _ _), hb ▸ Kept.refl _ _⟩
  · rw [if_neg h2, if_neg h2]
    by_cases h3 : S.fuse = 0
    · rw [if_pos h3, if_pos h3]
      exact (rtrunc_no h n (by omega) h3).mono fun e w' ⟨he, hb⟩ => ⟨he, h.grown hb, Kept.of_new hb⟩
    · rw [if_neg h3, if_neg h3]
      exact rtrunc_yes h n (by omega) h3 hf.hi hf.ops
theorem dsy_any (h : Dev w F g S) (hf : Fair S) :
    Calls Try.prog 17 #[.pointer (some ⟨g, 0, none⟩)] w fun e w' => e = .returned (.int .i64 (syE S)) ∧ Dev w' (Grow F w w') g (syS S) ∧ Kept F w w' := by
  unfold syE syS
  by_cases h3 : S.fuse = 0
  · rw [if_pos h3, if_pos h3]
    exact (dsync_no h h3).mono fun e w' ⟨he, hb⟩ => ⟨he, h.grown (hb ▸ Below.refl _ _), hb ▸ Kept.refl _ _⟩
  · rw [if_neg h3, if_neg h3]
    exact sync_is h h3 hf.lo hf.hi hf.ops (by rw [hf.sz]; exact hf.all)
theorem rsy_any (h : Ref w F g S) (hf : Fair S) :
    Calls Try.prog 48 #[.pointer (some ⟨g, 0, none⟩)] w fun e w' => e = .returned (.int .i64 (syE S)) ∧ Ref w' (Grow F w w') g (syS S) ∧ Kept F w w' := by
  unfold syE syS
  by_cases h3 : S.fuse = 0
  · rw [if_pos h3, if_pos h3]
    exact (rsync_no h h3).mono fun e w' ⟨he, hb⟩ => ⟨he, h.grown (hb ▸ Below.refl _ _), hb ▸ Kept.refl _ _⟩
  · rw [if_neg h3, if_neg h3]
    exact (rsync_yes h h3 hf.hi hf.ops).mono fun e w' ⟨he, hd, hk⟩ => ⟨he, hd.wide (fun k hk => .inl hk) (grow_lt h.lt hk.size), hk⟩
end
theorem burn_in {z : Int} (h : -9223372036854775808 ≤ z ∧ z ≤ 9223372036854775807) : -9223372036854775808 ≤ burn z ∧ burn z ≤ 9223372036854775807 := by
  unfold burn
  split <;> omega
theorem Fair.wr {S : DevS} (h : Fair S) (ho : S.ops + 1 ≤ 4294967296) (n : Nat) (b : ByteArray) : Fair (wrS S n b) := by
  unfold wrS
  split
  · exact h
  · split
    · exact h
    · split
      · exact h
      · have hb := burn_in ⟨h.lo, h.hi⟩
        exact ⟨h.sz, by show allOn 128 (S.pend ++ [.wr n b]) S.dur = _; rw [allOn_snoc, h.all]; rfl, hb.1, hb.2, ho⟩
theorem Fair.tr {S : DevS} (h : Fair S) (ho : S.ops + 1 ≤ 4294967296) (n : Nat) : Fair (trS S n) := by
  unfold trS
  split
  · exact h
  · split
    · exact h
    · have hb := burn_in ⟨h.lo, h.hi⟩
      exact ⟨h.sz, by show allOn 128 (S.pend ++ [.tr n]) S.dur = _; rw [allOn_snoc, h.all]; rfl, hb.1, hb.2, ho⟩
theorem Fair.sy {S : DevS} (h : Fair S) (ho : S.ops + 1 ≤ 4294967296) : Fair (syS S) := by
  unfold syS
  split
  · exact h
  · have hb := burn_in ⟨h.lo, h.hi⟩
    exact ⟨h.sz, rfl, hb.1, hb.2, ho⟩
def rdE (S : DevS) (n : Nat) : Int := if S.img.length / S.size ≤ n then 5 else 0
def rdB (S : DevS) (n : Nat) : ByteArray := if S.img.length / S.size ≤ n then ⟨#[]⟩ else ⟨((S.img.drop (n * S.size)).take S.size).toArray⟩
section
variable {w w' : World} {F : Nat → Prop} {g : Nat} {S : DevS}
theorem drd_any (h : Dev w F g S) (n : Nat) :
    Calls Try.prog 12 #[.pointer (some ⟨g, 0, none⟩), .int .u32 n] w fun e w' => e = .returned (.tuple #[.string (rdB S n), .int .i64 (rdE S n)]) ∧ w = w' := by
  unfold rdE rdB
  by_cases h1 : S.img.length / S.size ≤ n
  · rw [if_pos h1, if_pos h1]
    exact dread_none h n h1
  · rw [if_neg h1, if_neg h1]
    exact dread_ok h n (by omega)
theorem rrd_any (h : Ref w F g S) (n : Nat) (hn : n ≤ 4294967295) :
    Calls Try.prog 49 #[.pointer (some ⟨g, 0, none⟩), .int .u32 n] w fun e w' => e = .returned (.tuple #[.string (rdB S n), .int .i64 (rdE S n)]) ∧ Below w.heap.size w w' := by
  unfold rdE rdB
  by_cases h1 : S.img.length / S.size ≤ n
  · rw [if_pos h1, if_pos h1]
    exact rread_none h n h1 hn
  · rw [if_neg h1, if_neg h1]
    exact rread_ok h n (by omega)
end
def crS (S : DevS) (keep : List Int) : DevS := { S with img := keepUp 128 keep S.pend S.dur S.pend.length, dur := keepUp 128 keep S.pend S.dur S.pend.length, pend := [], fuse := -1 }
theorem Fair.cr {S : DevS} (h : Fair S) (keep : List Int) : Fair (crS S keep) := ⟨h.sz, rfl, by show -9223372036854775808 ≤ (-1 : Int); decide, by show (-1 : Int) ≤ 9223372036854775807; decide, h.ops⟩
theorem Fair.fu {S : DevS} (h : Fair S) {z : Int} (h1 : -9223372036854775808 ≤ z) (h2 : z ≤ 9223372036854775807) : Fair { S with fuse := z } := ⟨h.sz, h.all, h1, h2, h.ops⟩
/-- What keeps all pending operations makes the image; what keeps none leaves what was durable. -/
theorem keepUp_none {size : Nat} {pend : List POp} {d : List UInt8} : ∀ j, keepUp size [] pend d j = d
  | 0 => rfl
  | j + 1 => by rw [keepUp_no (by simp), keepUp_none j]
theorem keepUp_all {size : Nat} {keep : List Int} {pend : List POp} {d : List UInt8} (h : ∀ j, j < pend.length → keep.contains (j : Int) = true) : ∀ j, j ≤ pend.length → keepUp size keep pend d j = allOn size (pend.take j) d
  | 0, _ => by simp [keepUp, allOn]
  | j + 1, hj => by
    have ho : pend[j]? = some pend[j] := List.getElem?_eq_getElem (by omega)
    rw [keepUp_yes ho (h j (by omega)), keepUp_all h j (by omega), allOn_take size pend j _ d ho]
end Go.Proofs.Ytmkejkmgpigmhaa
