/-
  Contracts of an allocation's marked, of slices.Grow and slices.Concat at numbers of 32 bits, of maps.Clone: each with its conditions in its own statement.
-/
import Derived.Test.YtofbglgdmabafaaJ21
import Derived.Shelf.SlMaps.Clone
import Derived.Test.YtofbglgdmabafaaJ8
namespace Go.Proofs.Ytofbglgdmabafaa
open Go.RowKit
open Go.Lib hiding intOf
open Go.Maps (Keyed IsMap Tidy)
set_option linter.unusedVariables false
set_option linter.unusedSimpArgs false
attribute [local go_sem ↓] Go.wp_at_zero Go.wp_at_succ

/-- Numbers that have a mark, as far as they have come. -/
structure Some_ (D : DataW Unit) (left : Lit → Bool) (z : Bool) (l : List Nat) : Prop where
  nodup : l.Nodup
  mem : ∀ m, m ∈ l ↔ Maps.has D (.int .u32 (m : Int)) = true ∧ left (.int .u32 (m : Int)) = false ∧ D.atKey (.int .u32 (m : Int)) (.lit (.bool false)) = .lit (.bool z)
theorem Some_.start (D : DataW Unit) (z : Bool) : Some_ D (Maps.has D) z [] := ⟨List.nodup_nil, fun m => by simp; intro a b; rw [a] at b; cases b⟩
theorem Some_.skip {D : DataW Unit} {left : Lit → Bool} {z c : Bool} {l : List Nat} {n : Nat} (h : Some_ D left z l) (hl : left (.int .u32 (n : Int)) = true) (hc : D.atKey (.int .u32 (n : Int)) (.lit (.bool false)) = .lit (.bool c)) (hz : c ≠ z) :
    Some_ D (fun q => left q && !q.sameKey (.int .u32 (n : Int))) z l := ⟨h.nodup, fun m => by
  rw [h.mem m]
  by_cases e : m = n
  · subst e
    rw [hl, hc]
    constructor
    · rintro ⟨_, h, _⟩; cases h
    · rintro ⟨_, _, h⟩
      injection h with h
      injection h with h
      exact absurd h hz
  · rw [Maps.sameKey_ne (litU_ne e)]
    simp⟩
theorem Some_.take {D : DataW Unit} {left : Lit → Bool} {z : Bool} {l : List Nat} {n : Nat} (h : Some_ D left z l) (hl : left (.int .u32 (n : Int)) = true) (hc : D.atKey (.int .u32 (n : Int)) (.lit (.bool false)) = .lit (.bool z)) (hh : Maps.has D (.int .u32 (n : Int)) = true) :
    Some_ D (fun q => left q && !q.sameKey (.int .u32 (n : Int))) z (l ++ [n]) := by
  have hno : n ∉ l := fun hm => by
    have := ((h.mem n).1 hm).2.1
    rw [hl] at this
    cases this
  refine ⟨?_, fun m => ?_⟩
  · rw [List.nodup_append]
    exact ⟨h.nodup, by simp, fun a ha b hb e => by simp at hb; subst hb; subst e; exact hno ha⟩
  · rw [List.mem_append, List.mem_singleton, h.mem m]
    by_cases e : m = n
    · subst e
      rw [WideAt.sameKey_self (show WideAt.IsKeyLit (Lit.int .u32 (m : Int)) from trivial)]
      simp [hh, hc]
    · rw [Maps.sameKey_ne (litU_ne e)]
      simp [e]
theorem eql_mark (a b : Bool) (w : World) : (binOp .eql 69 (.agg #[.bool a]) (.agg #[.bool b])).run Try.prog w = .ok (.bool (a == b)) w := by
  cases a <;> cases b <;> kernel_rfl
set_option maxRecDepth 100000 in
/-- The step of a range over the marks, at the operation. -/
theorem wpList_next_mark (w : World) {ops : Array Oper} {rest : List Oper} {o : Oper} {a : Act} {Q : Exit → Act → World → Prop} (hg : o.guard = none) (it : Operand) (hop : o.op = Op.next it false) (b r n : Nat) (D : DataW Unit) (left : Lit → Bool) (cnt : Nat) (z : Bool)
    (hit : a.eval it = .pointer (some ⟨r, 0, none⟩)) (h : w.ranges Try.prog 27 markEl b r n D left cnt)
    (hDone : cnt = 0 → Hid (∀ kl, left kl = false) → wpList Try.prog ops Q rest (a.put o.dst (.tuple #[.bool false])) w)
    (hIs : ∀ (x : Nat) (w' : World) (cnt' : Nat), Hid (x < 4294967296) → Hid (left (.int .u32 (x : Int)) = true) → Hid (D.atKey (.int .u32 (x : Int)) (.lit (.bool false)) = .lit (.bool z)) → Hid (Maps.has D (.int .u32 (x : Int)) = true) → w'.ranges Try.prog 27 markEl b r n D (fun z => left z && !z.sameKey (.int .u32 (x : Int))) cnt' → cnt' < cnt →
      w.grownBy w' (some r) → w'.heap.size = w.heap.size → (Instr.entry (.pointer (some ⟨r, 0, none⟩))).run Try.prog w' = .ok (.tuple #[.int .u32 (x : Int), .agg #[.bool z]]) w' → wpList Try.prog ops Q rest (a.put o.dst (.tuple #[.bool true, .int .u32 (x : Int), .agg #[.bool z]])) w')
    (hNot : ∀ (x : Nat) (w' : World) (cnt' : Nat), Hid (x < 4294967296) → Hid (left (.int .u32 (x : Int)) = true) → Hid (D.atKey (.int .u32 (x : Int)) (.lit (.bool false)) = .lit (.bool (!z))) → Hid (Maps.has D (.int .u32 (x : Int)) = true) → w'.ranges Try.prog 27 markEl b r n D (fun z => left z && !z.sameKey (.int .u32 (x : Int))) cnt' → cnt' < cnt →
      w.grownBy w' (some r) → w'.heap.size = w.heap.size → (Instr.entry (.pointer (some ⟨r, 0, none⟩))).run Try.prog w' = .ok (.tuple #[.int .u32 (x : Int), .agg #[.bool (!z)]]) w' → wpList Try.prog ops Q rest (a.put o.dst (.tuple #[.bool true, .int .u32 (x : Int), .agg #[.bool (!z)]])) w') :
    wpList Try.prog ops Q (o :: rest) a w := by
  refine wpList_next_ranges (α := Int) (β := Bool) w hg it hop 27 lawU markEl (Value.int .u32) (fun q => .agg #[.bool q]) (fun key kl hk => by obtain ⟨x, rfl, _⟩ := Maps.keyOf_int_inv Try.underlying27 hk; exact ⟨x, rfl⟩) (fun v y hy => by obtain ⟨q, rfl, _⟩ := markEl_inv hy; exact ⟨q, rfl⟩) b r n D left cnt hit h (fun h0 h1 => hDone h0 (Lib.hid h1)) ?_
  intro x q kl y w' cnt' hkey hl hv hat hrg hlt hgr hsz hen
  obtain ⟨x', ex, rfl, hwx⟩ := Maps.keyOf_int_inv Try.underlying27 hkey
  cases ex
  obtain ⟨q', eq, rfl⟩ := markEl_inv hv
  have hq : q' = q := by injection eq with eq; simpa using eq.symm
  subst hq
  have h2 : 0 ≤ x ∧ x ≤ 4294967295 := by simpa [Lit.wf, IntKind.min, IntKind.max, IntKind.signed, IntKind.bits] using hwx
  obtain ⟨m, rfl⟩ : ∃ m : Nat, x = (m : Int) := ⟨x.toNat, by omega⟩
  by_cases hqz : q' = z
  · subst hqz
    exact hIs m w' cnt' (Lib.hid (by omega)) (Lib.hid hl) (Lib.hid (hat _)) (Lib.hid (Maps.has_true_of_atKey hat)) hrg hlt hgr hsz hen
  · obtain rfl : q' = !z := by cases q' <;> cases z <;> simp_all
    exact hNot m w' cnt' (Lib.hid (by omega)) (Lib.hid hl) (Lib.hid (hat _)) (Lib.hid (Maps.has_true_of_atKey hat)) hrg hlt hgr hsz hen
/-- What marked leaves: its pages, each once. -/
def MarkedPost (S : AlS) (z : Bool) (w : World) (e : Ending) (w' : World) : Prop := ∃ A n c l, e = .returned (.slice A n c) ∧ w'.ownsRow w.heap.size 27 1 (.slice A n c) n (ucells l) ∧ Below w.heap.size w w' ∧ l.Nodup ∧ ∀ m, m ∈ l ↔ m ∈ (if z then S.gave else S.took)
set_option maxRecDepth 100000 in
set_option maxHeartbeats 3200000 in
theorem amarked_any {w : World} {F : Nat → Prop} {g : Nat} {S : AlS} (h : Al w F g S) (z : Bool) :
    Calls Try.prog 41 #[.pointer (some ⟨g, 0, none⟩), .agg #[.bool z]] w (MarkedPost S z w) := by
  obtain ⟨A, nn, c, b, D, h⟩ := h
  have hsm := h.ok.small
  have hgl := h.Flt _ h.Fg
  have hbl := h.Flt _ h.Fb
  have hb0 : Blk (w.alloc (.cells #[.bool z] 69)) g 67 _ := h.blk.alloc _
  have c4 := hb0.cell 4
  simp at c4
  have hmap : (w.alloc (.cells #[.bool z] 69)).ownsMap Try.prog 27 markEl b (S.took.length + S.gave.length) D := h.map.alloc _
  obtain ⟨i0, hi0, hz0, hz1, hz2⟩ := info_parts infoU32
  have hz : Blk (w.alloc (.cells #[.bool z] 69)) w.heap.size 69 #[.bool z] := Blk.new _ _ _
  have HM := Lib.hid h.marks
  have HOK := Lib.hid h.ok
  have heq := fun a b w => eql_mark a b w
  have HSM := Lib.hid hsm
  have HB0 := Lib.hid (show Below w.heap.size w (w.alloc (.cells #[.bool z] 69)) from (Below.refl _ _).alloc (Nat.le_refl _) _)
  obtain ⟨N, hN⟩ : ∃ N, N = w.heap.size := ⟨_, rfl⟩
  have HN := Lib.hid hN
  have HZ := Lib.hid hz
  clear h hsm hb0 hz hN
  go_enter Try.func41, Try.ntmps41
  go_wp2_with (at_range; refine wpList_range_own _ rfl _ 65 rfl 27 69 lawU Try.underlying65 markEl b _ D rfl hmap ?_; intro w0 hrg0 hg0 hs0)
  go_frame
  have hr0 : (w.alloc (.cells #[.bool z] 69)).heap.size = w.heap.size + 1 := by simp
  rw [hr0]
  rw [hr0] at hrg0 hs0
  have HK0 := Lib.hid (HB0.out.grown hg0 (by simp) (by simp))
  have hzz := Lib.hid (HZ.out.grown hg0 (by simp))
  go_loopw [5] (fun s5 wr => ∃ A n c l left cnt, s5 = .slice A n c ∧ wr.ranges Try.prog 27 markEl b (w.heap.size + 1) (S.took.length + S.gave.length) D left cnt ∧ wr.ownsRow (w.heap.size + 2) 27 1 (.slice A n c) n (ucells l) ∧ Hid (Some_ D left z l) ∧ n + cnt ≤ S.took.length + S.gave.length ∧ Hid (Below w.heap.size w wr) ∧ Hid (Blk wr w.heap.size 69 #[.bool z]) ∧ w.heap.size + 2 ≤ wr.heap.size) (fun _ wr => wr.rangeLeft b (w.heap.size + 1))
  case atStart =>
    refine ⟨none, 0, 0, [], _, _, rfl, hrg0, World.ownsRow_nil _ _ _ _, Lib.hid (Some_.start D z), ?_, HK0, hzz, ?_⟩
    · rw [HM.out.size]; omega
    · omega
  case round =>
    obtain ⟨A, n, c, l, left, cnt, rfl, hrg, hown, HS, hcnt, HB, HZ2, hsz⟩ := hrel
    go_wp2_with (at_next; refine wpList_next_mark _ rfl _ rfl b _ _ D left cnt z rfl hrg ?_ ?_ ?_)
    · intro h0 hleft
      go_wp2
      go_ret
      refine ⟨A, n, c, l, rfl, own_low hown (by omega), HB.out, HS.out.nodup, fun m => ?_⟩
      have hd := HOK.out.d23 m
      rw [HS.out.mem m, HM.out.has m, HM.out.at_ m, hleft.out]
      rw [← inU_no] at hd
      rw [← inU_iff] at hd
      cases z
      · rw [if_neg (by simp), ← inU_iff]
        cases h1 : inU S.took m <;> cases h2 : inU S.gave m <;> simp_all
      · rw [if_pos rfl, ← inU_iff]
        cases h1 : inU S.took m <;> cases h2 : inU S.gave m <;> simp_all
    all_goals
      intro x w1 cnt1 HX HL HAT HH hrg1 hlt hg1 hs1 hen
      have hgr : ∀ k, k < w.heap.size + 1 → w1.heap[k]? = wr.heap[k]? := fun k hk => hg1.block k (by omega) (by intro e; injection e with e; omega)
      have hown1 : w1.ownsRow (w.heap.size + 2) 27 1 (.slice A n c) n (ucells l) := by
        refine hown.kept hg1 (.inr ?_)
        intro e
        have h3 := (hown.lt _ e).1
        omega
      have hZ1 : Blk w1 w.heap.size 69 #[.bool z] := (hgr _ (by omega)).trans HZ2.out
      have HB1 := Lib.hid (HB.out.grown hg1 (by omega) (by intro k e; cases e; simp))
      have hbx : ∀ q, Blk ((w1.alloc (.cells #[.bool q] 69)).alloc (.cells #[.int .u32 x] 27)) (wr.heap.size + 1) 27 #[.int .u32 x] := fun q => by
        have := Blk.new (w1.alloc (.cells #[.bool q] 69)) 27 #[.int .u32 x]
        rw [show (w1.alloc (.cells #[.bool q] 69)).heap.size = wr.heap.size + 1 by simp [hs1]] at this
        exact this
      have HBX := Lib.hid hbx
      have HO1 := Lib.hid hown1
      have HR1 := Lib.hid hrg1
      have HR := Lib.hid hrg
      have HG1 := Lib.hid hgr
      have HZ1 := Lib.hid hZ1
      have HS1 := Lib.hid hs1
      clear hgr hbx hown1
    · have q3 : (w1.alloc (.cells #[.bool z] 69)).cell? ⟨w.heap.size, 0, none⟩ = some (.bool z) := (hZ1.alloc _).cell 0
      go_wp2_with (at_builtin; refine wpList_append_any _ rfl (.tmp 21) (.tmp 23) _ rfl (w.heap.size + 2) 27 i0 _ 1 4 Try.underlying28 hi0 hz0 hz1 hz2 rfl (by omega) _ n (ucells l) rfl ((HO1.out.alloc _).alloc _) (wr.heap.size + 2) (some ⟨wr.heap.size + 1, 0, none⟩) 1 1 [.int .u32 x] rfl (reads_own (n := 1) (HBX.out z) rfl) (by simp [Value.oneCell']) (by unfold maxLen; have := HSM.out; omega) (by have := HSM.out; omega) (by simp; omega) ?_; intro v2 w2 hown2 hg2 hat2; have HO2 := Lib.hid hown2; have HG2 := Lib.hid hg2; obtain ⟨A2, c2, rfl, _⟩ := own_form hown2; clear hown2 hg2 hat2)
      go_roundw
      case rel =>
        have hs2 := HG2.out.size
        simp at hs2
        have hs3 := HS1.out
        have hnb : ∀ k, k < w.heap.size + 2 → some k ≠ (Value.slice A n c).ownBlock := fun k hk e => by
          have h3 := (HO1.out.lt k e.symm).1
          omega
        have hl2 : ucells l ++ [Value.int .u32 (x : Int)] = ucells (l ++ [x]) := by rw [ucells_append]; rfl
        refine ⟨A2, n + 1, c2, l ++ [x], _, cnt1, rfl, (((HR1.out.alloc _).alloc _).kept HG2.out (hnb _ (by omega)) (hnb _ (by omega))), ?_, Lib.hid (HS.out.take HL.out HAT.out HH.out), by omega, Lib.hid ?_, Lib.hid (((HZ1.out.alloc _).alloc _).grown HG2.out (hnb _ (by omega))), by omega⟩
        · have := HO2.out
          rw [hl2] at this
          exact this
        · exact (((HB1.out.alloc (by omega) _).alloc (by simp; omega) _).grown HG2.out (by simp; omega) (fun k e => by have := (HO1.out.lt k e).1; omega))
      case measure =>
        have hnb : ∀ k, k < w.heap.size + 2 → some k ≠ (Value.slice A n c).ownBlock := fun k hk e => by
          have h3 := (HO1.out.lt k e.symm).1
          omega
        rw [(((HR1.out.alloc _).alloc _).kept HG2.out (hnb _ (by omega)) (hnb _ (by omega))).left_eq, HR.out.left_eq]; omega
    · have q3 : (w1.alloc (.cells #[.bool (!z)] 69)).cell? ⟨w.heap.size, 0, none⟩ = some (.bool z) := (hZ1.alloc _).cell 0
      go_wp2_with fail
      go_roundw
      case rel => exact ⟨A, n, c, l, _, cnt1, rfl, HR1.out.alloc _, HO1.out.alloc _, Lib.hid (HS.out.skip HL.out HAT.out (by cases z <;> simp)), by omega, Lib.hid (HB1.out.alloc (by have := HS1.out; omega) _), Lib.hid (HZ1.out.alloc _), by have := HS1.out; simp; omega⟩
      case measure => rw [(HR1.out.alloc _).left_eq, HR.out.left_eq]; omega
end Go.Proofs.Ytofbglgdmabafaa

