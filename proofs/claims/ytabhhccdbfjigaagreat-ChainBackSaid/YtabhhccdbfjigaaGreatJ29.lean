/-
  Texts that the main proof rests on, put together: FnRow, Ref11T, Ref11U, Ref11L. No statement is proved here.
-/
import Derived.Test.YtabhhccdbfjigaaGreatJ24
import Derived.Test.YtabhhccdbfjigaaGreatJ28
import Derived.Deep.CutRange
import Derived.Test.YtabhhccdbfjigaaGreatJ23
import Derived.Test.YtabhhccdbfjigaaGreatJ7
import Derived.Lib.MinMax
import Derived.Test.YtabhhccdbfjigaaGreatJ27
import Derived.Test.YtabhhccdbfjigaaGreatJ15
import Derived.Test.YtabhhccdbfjigaaGreatJ20
import Derived.Test.YtabhhccdbfjigaaGreatJ11
import Derived.Test.YtabhhccdbfjigaaGreatJ2
import Derived.Deep.DrawnRows
namespace Go.Proofs.YtabhhccdbfjigaaGreat
open Go.RowKit
open Go.Lib hiding intOf
set_option linter.unusedVariables false
set_option linter.unusedSimpArgs false
attribute [local go_sem ↓] Go.wp_at_zero Go.wp_at_succ

set_option maxRecDepth 100000 in
theorem ownU_any {w : World} {A : Option Addr} {n : Nat} {l : List Nat} (c : Nat) (hr : Reads w w.heap.size 1 A n (ucells l)) (hn : n ≤ 17592186044416) :
    Calls Tryz.prog 18 #[.slice A n c] w fun e w' => ∃ A' c', e = .returned (.slice A' n c') ∧ w'.ownsRow w.heap.size 22 1 (.slice A' n c') n (ucells l) ∧ Below w.heap.size w w' := by
  obtain ⟨i0, hi0, hz0, hz1, hz2⟩ := info_parts infoU32
  go_enter Tryz.func18, Tryz.ntmps18
  go_wp2_with (at_builtin; refine wpList_append_any _ rfl (.tmp 3) (.tmp 4) _ rfl w.heap.size 22 i0 _ 1 4 Tryz.underlying24 hi0 hz0 hz1 hz2 rfl (by omega) _ 0 [] rfl (World.ownsRow_made w #[] 0 (Nat.le_refl _) (Nat.zero_le _) rfl) (w.heap.size + 1) A n c (ucells l) rfl ((hr.alloc (Nat.le_refl _) _).more (by omega)) (ucells_one _) (by unfold maxLen; omega) (by omega) (by simp) ?_; intro v2 w2 hown2 hg2 hat2)
  go_ret
  have hown3 : w2.ownsRow w.heap.size 22 1 v2 n (ucells l) := by simpa using hown2
  obtain ⟨A', c', rfl, _⟩ := own_form hown3
  exact ⟨A', c', rfl, hown3, ((Below.refl _ _).alloc (Nat.le_refl _) _).grown hg2 (by simp) (by rintro k ⟨⟩; exact Nat.le_refl _)⟩
theorem usliced (A : Option Addr) (n c k : Nat) (z : Int) (hz : z = k) (hk : k ≤ n) : ∃ X, X = (if c = k then A else A.map (·.add k)) ∧ ∀ w : World, (Instr.sliceAt 24 (.slice A n c) (some (.int .i64 z)) none none).run Tryz.prog w = .ok (.slice X (n - k) (c - k)) w := by
  refine ⟨_, rfl, fun w => ?_⟩
  obtain ⟨i0, hi0, hz0, hz1, hz2⟩ := info_parts infoU32
  have he : Tryz.prog.elem 24 = 22 := by kernel_rfl
  have hu : Tryz.prog.underlying 24 = some (.slice (Tryz.prog.elem 24)) := by rw [he]; exact Tryz.underlying24
  rw [run_sliceAt_slice w _ _ _ _ _ hu, run_slice_l w _ A n c hu .i64 z (by omega) (by omega), he]
  simp [sizeOf, typeInfo, hi0, hz1, sliced, hz]
theorem utake {w : World} {B n k : Nat} {A : Option Addr} {l : List Nat} (h : Reads w B 1 A n (ucells l)) (hk : k ≤ n) : Reads w B 1 A k (ucells (l.take k)) := by
  have hl := ulen h
  refine ⟨by rw [ucells_length, List.length_take]; omega, fun hn => ?_⟩
  obtain ⟨ad, ha, hb, hc⟩ := h.2 (by omega)
  refine ⟨ad, ha, hb, fun j u hu => hc j u ?_⟩
  have hj : j < k := by
    have := (List.getElem?_eq_some_iff.1 hu).1
    rw [ucells_length, List.length_take] at this
    omega
  rw [← hu]
  unfold ucells
  rw [List.getElem?_map, List.getElem?_map, List.getElem?_take_of_lt hj]
theorem udrop {w : World} {B n c k : Nat} {A : Option Addr} {l : List Nat} (h : Reads w B 1 A n (ucells l)) (hk : k ≤ n) (hc : n ≤ c) : Reads w B 1 (if c = k then A else A.map (·.add k)) (n - k) (ucells (l.drop k)) := by
  have := h.cut hk hc
  simp only [Nat.mul_one] at this
  unfold ucells at this ⊢
  rwa [← List.map_drop] at this
theorem ubytes_at {w : World} {B n k : Nat} {A : Option Addr} {l : List UInt8} (h : Reads w B 1 A n (bcells l)) (hk : k < n) : ∃ ad b, A = some ad ∧ l[k]? = some b ∧ w.cell? (ad.add k) = some (.int .u8 (b.toNat : Int)) := by
  obtain ⟨ad, u, ha, hb, hx, hc⟩ := h.at_ hk
  unfold bcells at hx
  rw [List.getElem?_map, Option.map_eq_some_iff] at hx
  obtain ⟨b, hb, rfl⟩ := hx
  exact ⟨ad, b, ha, hb, hc⟩
theorem ucells_set (l : List Nat) (i a : Nat) : (ucells l).set i (.int .u32 (a : Int)) = ucells (l.set i a) := by unfold ucells; rw [List.map_set]
/-- What two numbers laid next to each other read. -/
theorem reads_two (w : World) (t : TypeId) (a b : Nat) : Reads (w.alloc (.cells #[.int .u32 a, .int .u32 b] t)) (w.alloc (.cells #[.int .u32 a, .int .u32 b] t)).heap.size 1 (some ⟨w.heap.size, 0, none⟩) 2 (ucells [a, b]) := by
  rw [World.size_alloc]
  exact reads_own (n := 2) (Blk.new w t #[.int .u32 a, .int .u32 b]) rfl
theorem nats_of_ints : ∀ zs : List Int, (∀ n ∈ zs, (Lit.int .u32 n).wf = true) → ∃ l : List Nat, zs.map (Value.int .u32) = ucells l ∧ l.length = zs.length ∧ ∀ n ∈ l, n < 4294967296
  | [], _ => ⟨[], rfl, rfl, by simp⟩
  | n :: zs, h => by
    obtain ⟨l, e, hl, hb⟩ := nats_of_ints zs fun m hm => h m (List.mem_cons_of_mem _ hm)
    have hn := h n List.mem_cons_self
    have hn := lit_u32' hn
    refine ⟨n.toNat :: l, ?_, by simp [hl], ?_⟩
    · simp only [List.map_cons, e, ucells]
      congr 2
      omega
    · intro m hm
      rcases List.mem_cons.1 hm with rfl | hm
      · omega
      · exact hb m hm
theorem row_nats {w : World} {a : Option Addr} {len cap : Nat} {zs : List Int} (h : IsRow .u32 w a len cap zs) : ∃ l : List Nat, Reads w w.heap.size 1 a len (ucells l) ∧ len ≤ cap ∧ cap ≤ maxLen ∧ ∀ n ∈ l, n < 4294967296 := by
  obtain ⟨h1, h2, h3, h4, h5⟩ := h.reads
  obtain ⟨l, e, hl, hb⟩ := nats_of_ints _ h5
  exact ⟨l, by rw [← e]; exact h1, h2, h3, hb⟩
theorem ureads_cell {w : World} {B n k : Nat} {ad : Addr} {l : List Nat} (h : Reads w B 1 (some ad) n (ucells l)) (hk : k < n) : w.cell? (ad.add k) = some (.int .u32 (nthU l k)) := by
  obtain ⟨ad', ha, _, hc⟩ := ureads_at h hk
  injection ha with ha
  subst ha
  exact hc
theorem add_zero_addr (ad : Addr) : ad.add 0 = ad := by simp [Addr.add]
end Go.Proofs.YtabhhccdbfjigaaGreat
namespace Go.Proofs.YtabhhccdbfjigaaGreat
open Go.RowKit
open Go.Lib hiding intOf
set_option linter.unusedVariables false
set_option linter.unusedSimpArgs false
attribute [local go_sem ↓] Go.wp_at_zero Go.wp_at_succ

theorem listsL_no {size : Int} {tx : Nat} {ps ns : List Nat} (h : goodSize size = false ∨ (allU ns && ascU ns) = false ∨ ps.length < needF size ns.length ∨ fineL ps = false ∨ 4611686018427387904 < tx) : listsL size tx ps ns = none := by
  unfold listsL
  rw [if_neg]
  simp only [Bool.and_eq_true, decide_eq_true_eq]
  rintro ⟨h1, h2, h4, h5, h6⟩
  rcases h with h | h | h | h | h
  · rw [h1] at h; cases h
  · rw [h2.1, h2.2] at h; cases h
  · omega
  · rw [h5] at h; cases h
  · omega
theorem listsL_yes {size : Int} {tx : Nat} {ps ns : List Nat} (h1 : goodSize size = true) (h2 : (allU ns && ascU ns) = true) (h4 : needF size ns.length ≤ ps.length) (h5 : fineL ps = true) (h6 : tx ≤ 4611686018427387904) : listsL size tx ps ns = some ((List.range ps.length).map (liPg size.toNat tx ps ns)) := by
  obtain ⟨z, rfl, _⟩ := good_nat h1
  unfold listsL
  rw [h1, h2, decide_eq_true h4, h5, decide_eq_true h6]
  rfl

end Go.Proofs.YtabhhccdbfjigaaGreat
namespace Go.Proofs.YtabhhccdbfjigaaGreat
open Go.RowKit
open Go.Lib hiding intOf
set_option linter.unusedVariables false
set_option linter.unusedSimpArgs false
attribute [local go_sem ↓] Go.wp_at_zero Go.wp_at_succ

end Go.Proofs.YtabhhccdbfjigaaGreat
namespace Go.Proofs.YtabhhccdbfjigaaGreat
open Go.RowKit
open Go.Lib hiding intOf
set_option linter.unusedVariables false
set_option linter.unusedSimpArgs false
attribute [local go_sem ↓] Go.wp_at_zero Go.wp_at_succ

theorem ext_list11 (s : ByteArray) (i j : Nat) : (s.extract i j).data.toList = (s.data.toList.drop i).take (j - i) := by
  rw [ByteArray.data_extract, Array.toList_extract, List.extract_eq_take_drop]
theorem conv_zs11 {w : World} {g n : Nat} (h : MRow w g (List.replicate n 0)) :
    (convert 57 9 (.slice (some ⟨g, 0, none⟩) n n)).run Tryz.prog w = .ok (.string (zs n)) w := by
  have hr := h.reads
  rw [List.length_replicate] at hr
  exact run_string_reads w 57 9 5 n Tryz.underlying57 Tryz.underlying5 Tryz.underlying9 hr
theorem wr_sameZ {I b : ByteArray} {z n a : Nat} (hb : b.size = z) (ha : a = n * z) (h : a + z ≤ I.size) : I.extract 0 a ++ b ++ I.extract (a + z) I.size = writeB z n b I := by
  apply bytes_ext
  rw [writeB_list]
  unfold bWrite
  have hl := size_list I
  rw [ByteArray.data_append, ByteArray.data_append, Array.toList_append, Array.toList_append, ext_list11, ext_list11, ← ha, show a + z - I.data.toList.length = 0 by omega]
  simp
  rw [List.take_of_length_le (by rw [List.length_drop, hl]; omega)]
theorem wr_moreZ {I b : ByteArray} {z n a : Nat} (hb : b.size = z) (ha : a = n * z) (h : I.size < a + z) : (I ++ zs (a + z - I.size)).extract 0 a ++ b ++ (I ++ zs (a + z - I.size)).extract (a + z) (a + z) = writeB z n b I := by
  apply bytes_ext
  rw [writeB_list]
  unfold bWrite
  have hl := size_list I
  rw [ByteArray.data_append, ByteArray.data_append, Array.toList_append, Array.toList_append, ext_list11, ext_list11, ByteArray.data_append, Array.toList_append, zs_list, ← ha, hl, List.drop_of_length_le (l := I.data.toList) (by omega)]
  simp
theorem pgcell {w : World} {B n k : Nat} {ad : Addr} {L : List Pg} {y : Pg} (h : Reads w B 6 (some ad) n (pgcs L)) (hk : k < n) (hy : L[k]? = some y) : PgAt w (ad.add (k * 6)) y := by
  obtain ⟨ad', y', ha, _, hx, hc⟩ := page_at h hk
  injection ha with ha
  subst ha
  rw [hy] at hx
  injection hx with hx
  subst hx
  exact hc
end Go.Proofs.YtabhhccdbfjigaaGreat
