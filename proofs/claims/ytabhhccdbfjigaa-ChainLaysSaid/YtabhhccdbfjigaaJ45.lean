/-
  Texts that the main proof rests on, put together: ChPgs, FnImpl, ChDeal, ChImpl. No statement is proved here.
-/
import Derived.Test.YtabhhccdbfjigaaJ44
import Derived.Test.YtabhhccdbfjigaaJ23
import Derived.Test.YtabhhccdbfjigaaJ37
import Derived.Test.YtabhhccdbfjigaaJ38
import Derived.Test.YtabhhccdbfjigaaJ35
import Derived.Test.YtabhhccdbfjigaaJ26
import Derived.Lib.MinMax
import Derived.Test.YtabhhccdbfjigaaJ21
import Derived.Test.YtabhhccdbfjigaaJ25
import Derived.Test.YtabhhccdbfjigaaJ27
import Derived.Test.YtabhhccdbfjigaaJ28
import Derived.Test.YtabhhccdbfjigaaJ34
import Derived.Test.YtabhhccdbfjigaaJ39
import Derived.Test.YtabhhccdbfjigaaJ41
import Derived.Test.YtabhhccdbfjigaaJ30
namespace Go.Proofs.Ytabhhccdbfjigaa
open Go.RowKit
open Go.Lib hiding intOf
set_option linter.unusedVariables false
set_option linter.unusedSimpArgs false
attribute [local go_sem ↓] Go.wp_at_zero Go.wp_at_succ

theorem need_pos (size : Int) (v : ByteArray) (h1 : goodSize size = true) (h2 : 0 < v.size) : 0 < needN size v.size := by
  have hgp := good_nat h1
  obtain ⟨z, rfl, hz, _⟩ := good_nat h1
  rw [← parts_need]
  unfold partsL
  rw [if_pos h1, chunks_len]
  rcases Nat.eq_zero_or_pos (ceilD v.size (((z : Int) - 24).toNat)) with h0 | h0
  · exact absurd (piece_end (n := v.size) (r := ((z : Int) - 24).toNat) (i := 0) (by omega) (by omega)) (by omega)
  · exact h0
theorem pages_far {size : Int} {tx f : Nat} {v : ByteArray} (hf : f < 4294967296) (h : 2147483647 < f) : pagesL size tx f v = none := by
  unfold pagesL
  rcases hg : goodSize size with _ | _
  · exact onL_no (.inl hg)
  by_cases h0 : v.size = 0
  · exact onL_no (.inr (.inl h0))
  refine onL_no (.inr (.inr (.inr (.inr (.inl ?_)))))
  rcases hx : fineL (runW f (needN size v.size)) with _ | _
  · rfl
  · exfalso
    have hn := need_pos size v hg (by omega)
    obtain ⟨m, hm⟩ : ∃ m, needN size v.size = m + 1 := ⟨needN size v.size - 1, by omega⟩
    have h1 := (fineL_iff.1 hx 0 (by rw [runW_len]; exact hn)).1
    rw [hm] at h1
    rw [show nthU (runW f (m + 1)) 0 = f by unfold nthU runW; rw [List.getElem?_map, List.getElem?_range (by omega)]; show (f + 0) % 4294967296 = f; omega, numB_iff] at h1
    omega
set_option maxRecDepth 100000 in
set_option maxHeartbeats 6400000 in
theorem hpages_gen {M : Nat} (HD : DistOK M) (size : Int) (tx f : Nat) (v : ByteArray) (w : World) (hf : f < 4294967296) (hv : v.size ≤ 1000000) (hM : v.size ≤ 4096 → needN size v.size ≤ M) :
    Calls Try.prog 9 #[.int .i64 size, .int .u64 tx, .int .u32 f, .string v] w (PgsPost (pagesL size tx f v) w) := by
  obtain ⟨i0, hi0, hz0, hz1, hz2⟩ := info_parts infoU32
  by_cases h0 : 2147483647 < f
  · have HE := Lib.hid (pages_far (size := size) (tx := tx) (v := v) hf h0)
    have h1 : decide ((2147483647 : Int) < (f : Int)) = true := by simp; omega
    have h2 : decide (2147483647 < f) = true := by simp; omega
    clear h0 hM
    go_enter Try.func9, Try.ntmps9
    go_wp2_with fail
    go_ret2
    rw [HE.out]
    exact ⟨rfl, Below.refl _ _⟩
  have f1 : decide ((2147483647 : Int) < (f : Int)) = false := by simp; omega
  have f2 : decide (2147483647 < f) = false := by simp; omega
  by_cases h : 4096 < v.size
  · have HE := Lib.hid (show pagesL size tx f v = none from onL_no (.inr (.inr (.inl h))))
    have h1 : decide ((4096 : Int) < (v.size : Int)) = true := by simp; omega
    have h2 : decide (4096 < v.size) = true := by simp; omega
    clear h h0 hM
    go_enter Try.func9, Try.ntmps9
    go_wp2_with fail
    go_ret2
    rw [HE.out]
    exact ⟨rfl, Below.refl _ _⟩
  · have h1 : decide ((4096 : Int) < (v.size : Int)) = false := by simp; omega
    have h2 : decide (4096 < v.size) = false := by simp; omega
    obtain ⟨m, hm⟩ : ∃ m, m = needN size v.size := ⟨_, rfl⟩
    have hm9 : m ≤ 1000000 := by rw [hm]; exact needN_le _ _ hv
    have hmM : m ≤ M := by rw [hm]; exact hM (by omega)
    have HN := fun w => oneed_any size v.size w (by omega)
    rw [← hm] at HN
    obtain ⟨o, ho⟩ : ∃ o, o = pagesL size tx f v := ⟨_, rfl⟩
    have HE := Lib.hid (show o = onL size tx (runW f m) v by rw [ho, pagesL, hm])
    rw [← ho]
    have HV := Lib.hid hv
    have HM := Lib.hid hmM
    clear h h0 hm ho hv hM hmM
    go_enter Try.func9, Try.ntmps9
    go_wp2_with (go_at_call 26; refine (HN _).mono ?_; rintro e w1 ⟨rfl, hb1⟩)
    have HB1 := Lib.hid hb1
    clear hb1
    go_loopw [10, 11, 23] (fun b j i wr => ∃ (k : Nat) (A' : Option Addr) (c' : Nat), k ≤ m ∧ i = .int .i64 k ∧ b = .slice A' k c' ∧ Hid (wr.ownsRow w.heap.size 29 1 (.slice A' k c') k (ucells (runW f k))) ∧ Hid (Below w.heap.size w wr)) (fun _ _ i _ => m - (intOf i).toNat)
    case atStart => exact ⟨0, none, 0, Nat.zero_le _, rfl, rfl, Lib.hid (World.ownsRow_nil _ _ _ _), HB1⟩
    case round =>
      obtain ⟨k, A', c', hk, rfl, rfl, HO, HB⟩ := hrel
      by_cases hlt : k < m
      · have hk0 : (0 : Int) ≤ k := by omega
        have hk1 : (k : Int) < m := by omega
        have hw1 : IntKind.u32.wrap (k : Int) = (k : Int) := by rw [IntKind.wrap_u32]; omega
        obtain ⟨a, ha⟩ : ∃ a, a = (f + k) % 4294967296 := ⟨_, rfl⟩
        have ha1 : ((f : Int) + (k : Int)) % 4294967296 = (a : Int) := by omega
        have ha2 : IntKind.u32.wrap ((f : Int) + (k : Int)) = (a : Int) := by rw [IntKind.wrap_u32]; omega
        have HA := Lib.hid ha
        clear ha
        have HX := Lib.hid (HO.out.alloc (.cells #[.int .u32 a] 29))
        have HB3 := Lib.hid (HB.out.alloc HB.out.size (.cells #[.int .u32 a] 29))
        go_wp2_with (at_builtin; refine wpList_append_any _ rfl (.tmp 26) (.tmp 31) _ rfl w.heap.size 29 i0 _ 1 4 Try.underlying32 hi0 hz0 hz1 hz2 rfl (by omega) _ k _ rfl HX.out (wr.heap.size + 1) (some ⟨wr.heap.size, 0, none⟩) 1 1 (ucells [a]) rfl (reads_own (n := 1) (Blk.new _ _ _) rfl) (ucells_one _) (by unfold maxLen; omega) (by omega) (by have := HB.out.size; simp; omega) ?_; intro v5 w5 hown4 hg4 hat; clear hat; rw [← ucells_append, HA.out, ← runW_succ] at hown4; obtain ⟨A4, c4, rfl, _, _, _⟩ := own_form hown4; have HO4 := Lib.hid hown4; have HB4 := Lib.hid (HB3.out.grown hg4 HB3.out.size (fun j hj => (HX.out.lt j hj).1)); clear hown4 hg4)
        go_roundw
        case rel =>
          first
            | exact ⟨k + 1, A4, c4, by omega, by go_num, rfl, HO4, HB4⟩
            | ((repeat apply Exists.intro); exact ⟨⟨k + 1, A4, c4, by omega, by go_num, rfl, HO4, HB4⟩, rfl⟩)
        case measure => simp [intOf]; omega
      · obtain rfl : k = m := by omega
        clear hlt hk
        go_wp2_with (go_at_call 14; refine (hon_gen HD size tx A' k c' _ v _ ((Reads.of_own HO.out)) HM.out hm9 HV.out).mono ?_)
        rw [← HE.out]
        rintro e w2 h2
        cases o with
        | none =>
          obtain ⟨rfl, hb⟩ := h2
          have HB2 := Lib.hid (HB.out.trans (hb.mono HB.out.size))
          clear hb
          go_wp2_with fail
          go_ret2
          exact ⟨rfl, HB2.out⟩
        | some L =>
          obtain ⟨A3, n3, c3, rfl, hr3, hb⟩ := h2
          have HB2 := Lib.hid (HB.out.trans (hb.mono HB.out.size))
          have HR3 := Lib.hid hr3
          clear hb hr3
          go_wp2_with fail
          go_ret2
          exact ⟨A3, n3, c3, rfl, HR3.out, HB2.out⟩
end Go.Proofs.Ytabhhccdbfjigaa
namespace Go.Proofs.Ytabhhccdbfjigaa
end Go.Proofs.Ytabhhccdbfjigaa
namespace Go.Proofs.Ytabhhccdbfjigaa
open Go.RowKit
open Go.Lib hiding intOf
set_option linter.unusedVariables false
set_option linter.unusedSimpArgs false
attribute [local go_sem ↓] Go.wp_at_zero Go.wp_at_succ

theorem infoSlD : (Try.prog.info? 32).map (fun i => (i.zero, i.size, i.bytes)) = some (some (.slice none 0 0), 1, 24) := by kernel_rfl
/-- Numbers dealt in n lists of mo each. -/
def dealL (mo n : Nat) (ns : List Nat) : List (List Nat) := (List.range n).map fun i => (ns.drop (i * mo)).take mo
theorem dealL_len (mo n : Nat) (ns : List Nat) : (dealL mo n ns).length = n := by simp [dealL]
theorem dealL_at {mo n k : Nat} {ns : List Nat} (hk : k < n) : (dealL mo n ns)[k]? = some ((ns.drop (k * mo)).take mo) := by
  unfold dealL
  rw [List.getElem?_map, List.getElem?_range hk]; rfl
theorem LsRead.below {w w' : World} {cs : List Value} {ls : List (List Nat)} (h : LsRead w cs ls) (hb : Below w.heap.size w w') : LsRead w' cs ls :=
  ⟨h.1, fun i v l h1 h2 => by
    obtain ⟨A, n, c, rfl, hr⟩ := h.2 i v l h1 h2
    exact ⟨A, n, c, rfl, (hr.below hb).more hb.size⟩⟩
theorem LsRead.snoc {w : World} {mo k : Nat} {ns : List Nat} {cs : List Value} {A : Option Addr} {n c : Nat} (h : LsRead w cs (dealL mo k ns)) (hr : Reads w w.heap.size 1 A n (ucells ((ns.drop (k * mo)).take mo))) : LsRead w (cs ++ [.slice A n c]) (dealL mo (k + 1) ns) := by
  have hcl : cs.length = k := by rw [h.1, dealL_len]
  refine ⟨by rw [dealL_len, List.length_append, hcl]; rfl, fun i v l h1 h2 => ?_⟩
  rcases Nat.lt_trichotomy i k with hlt | heq | hgt
  · rw [dealL_at (by omega)] at h2
    rw [List.getElem?_append_left (by omega)] at h1
    exact h.2 i v l h1 (by rw [dealL_at hlt]; exact h2)
  · subst heq
    rw [dealL_at (by omega)] at h2
    rw [List.getElem?_append_right (by omega), hcl, Nat.sub_self] at h1
    injection h1 with h1
    injection h2 with h2
    subst h1 h2
    exact ⟨A, n, c, rfl, hr⟩
  · rw [List.getElem?_eq_none (by rw [dealL_len]; omega)] at h2
    cases h2
set_option maxRecDepth 100000 in
set_option maxHeartbeats 12800000 in
theorem hdealt_any (A2 : Option Addr) (n2 c2 : Nat) (ns : List Nat) (mo n : Nat) (w : World) (hr2 : Reads w w.heap.size 1 A2 n2 (ucells ns)) (hn2 : n2 ≤ 1000000) (hcc : n2 ≤ c2) (hn : n ≤ 1000000) (hmo9 : mo ≤ 1018) :
    Calls Try.prog 39 #[.slice A2 n2 c2, .int .i64 mo, .int .i64 n] w fun e w' => ∃ A' c' cs, e = .returned (.slice A' n c') ∧ Reads w' w'.heap.size 1 A' n cs ∧ LsRead w' cs (dealL mo n ns) ∧ Below w.heap.size w w' := by
  obtain ⟨j0, hj, hy0, hy1, hy2⟩ := info_parts infoSlD
  have HLn2 := Lib.hid (ulen hr2)
  have HR2 := Lib.hid hr2
  clear hr2
  go_enter Try.func39, Try.ntmps39
  go_wp2_with fail
  go_loopw [0, 7, 8, 10] (fun v b u i wr => ∃ (k r cr : Nat) (X : Option Addr) (A' : Option Addr) (c' : Nat) (cs : List Value), k ≤ n ∧ i = .int .i64 k ∧ v = .slice X r cr ∧ Hid (r = n2 - k * mo) ∧ Hid (r ≤ cr) ∧ Hid (Reads w w.heap.size 1 X r (ucells (ns.drop (k * mo)))) ∧ b = .slice A' k c' ∧ Hid (wr.ownsRow w.heap.size 32 1 (.slice A' k c') k cs) ∧ Hid (LsRead w cs (dealL mo k ns)) ∧ Hid (Below w.heap.size w wr)) (fun _ _ _ i _ => n - (intOf i).toNat)
  case atStart => exact ⟨0, n2, c2, A2, none, 0, [], Nat.zero_le _, rfl, rfl, Lib.hid (by omega), Lib.hid hcc, Lib.hid (by rw [Nat.zero_mul]; exact HR2.out), rfl, Lib.hid (World.ownsRow_nil _ _ _ _), Lib.hid ⟨rfl, by intro i v l h; cases h⟩, Lib.hid (Below.refl _ _)⟩
  case round =>
    obtain ⟨k, r, cr, X, A', c', cs, hk, rfl, rfl, HRr, HRc, HX0, rfl, HO, HL, HW⟩ := hrel
    have hr9 : r ≤ n2 := by rw [HRr.out]; exact Nat.sub_le _ _
    by_cases hlt : k < n
    · obtain ⟨q, hq⟩ : ∃ q, q = min mo r := ⟨_, rfl⟩
      have hmin : min (mo : Int) (r : Int) = (q : Int) := by omega
      have hqr : q ≤ r := by omega
      have hqm : q ≤ mo := by omega
      have hdl : (ns.drop (k * mo)).length = r := by rw [List.length_drop, HLn2.out, HRr.out]
      have hpq : (ns.drop (k * mo)).take mo = (ns.drop (k * mo)).take q := by
        rw [hq]
        by_cases h : r ≤ mo
        · rw [Nat.min_eq_right h, List.take_of_length_le (by omega), List.take_of_length_le (by omega)]
        · rw [Nat.min_eq_left (by omega)]
      have HS := Lib.hid (HL.out.snoc (c := cr) (show Reads w w.heap.size 1 X q (ucells ((ns.drop (k * mo)).take mo)) by rw [hpq]; exact utake HX0.out hqr))
      obtain ⟨X2, hX2, hsl⟩ := usliced X r cr q q rfl hqr
      have HX2 := Lib.hid (show Reads w w.heap.size 1 X2 (r - q) (ucells (ns.drop ((k + 1) * mo))) by
        have h := udrop HX0.out hqr HRc.out
        rw [← hX2, List.drop_drop] at h
        by_cases hh : r ≤ mo
        · rw [show r - q = 0 by omega, List.drop_of_length_le (by rw [HLn2.out, Nat.succ_mul]; have := HRr.out; omega)]
          exact ⟨by simp [ucells], fun h => absurd h (Nat.lt_irrefl 0)⟩
        · rw [show k * mo + q = (k + 1) * mo by rw [Nat.succ_mul]; omega] at h
          exact h)
      have HR9 := Lib.hid (show r - q = n2 - (k + 1) * mo by rw [Nat.succ_mul]; have := HRr.out; omega)
      have HC9 := Lib.hid (show r - q ≤ cr - q by have := HRc.out; omega)
      have hk0 : (0 : Int) ≤ k := by omega
      have hk1 : (k : Int) < n := by omega
      have hq0 : (0 : Int) ≤ q := by omega
      have hqc : (q : Int) ≤ cr := by have := HRc.out; omega
      have hqr' : (q : Int) ≤ r := by omega
      clear hpq hdl hq hX2
      have HX := Lib.hid (HO.out.alloc (.cells #[.slice X q cr] 32))
      have HB3 := Lib.hid (HW.out.alloc HW.out.size (.cells #[.slice X q cr] 32))
      go_wp2_with (at_builtin; refine wpList_append_any _ rfl (.tmp 16) (.tmp 20) _ rfl w.heap.size 32 j0 _ 1 24 Try.underlying77 hj hy0 hy1 hy2 rfl (by omega) _ k _ rfl HX.out (wr.heap.size + 1) (some ⟨wr.heap.size, 0, none⟩) 1 1 [.slice X q cr] rfl (reads_own (n := 1) (Blk.new _ _ _) rfl) (by simp [Value.oneCell']) (by unfold maxLen; omega) (by omega) (by have := HW.out.size; simp; omega) ?_; intro v5 w5 hown4 hg4 hat; clear hat; obtain ⟨A4, c4, rfl, _, _, _⟩ := own_form hown4; have HO4 := Lib.hid hown4; have HB4 := Lib.hid (HB3.out.grown hg4 HB3.out.size (fun j hj => (HX.out.lt j hj).1)); clear hown4 hg4)
      go_roundw
      case rel =>
        first
          | exact ⟨k + 1, r - q, cr - q, X2, A4, c4, _, by omega, by go_num, rfl, HR9, HC9, HX2, rfl, HO4, HS, HB4⟩
          | ((repeat apply Exists.intro); refine ⟨⟨k + 1, r - q, cr - q, X2, A4, c4, _, ?_, ?_, rfl, HR9, HC9, HX2, rfl, HO4, HS, HB4⟩, rfl⟩ <;> first | omega | go_num)
      case measure => simp [intOf]; omega
    · obtain rfl : k = n := by omega
      clear hlt hk
      go_wp2_with fail
      go_ret
      exact ⟨A', c', cs, rfl, Reads.of_own HO.out, HL.out.below HW.out, HW.out⟩
/-- The page of a list's part, if it may be one. -/
def liF (size : Int) (tx : Nat) (ps ns : List Nat) (k : Nat) : Option Pg :=
  if mayP10 size (nthU ps k) (nextL ps k) tx ((ns.drop (k * mostN size)).take (mostN size)) then some ⟨6, ((ns.drop (k * mostN size)).take (mostN size)).length, nthU ps k, nextL ps k, tx, freeBody size.toNat ((ns.drop (k * mostN size)).take (mostN size))⟩ else none
theorem fpage_all (size : Int) (tx : Nat) (ps ns : List Nat) (k A1 : Nat) (A : Option Addr) (n1 c1 : Nat) (l : List Nat) (W : World) (hl : l = (ns.drop (k * mostN size)).take (mostN size)) (hr : Reads W W.heap.size 1 A n1 (ucells l)) :
    Calls Try.prog 41 #[.int .i64 size, .int .u32 (nthU ps k), .int .u32 (nextL ps k), .int .u64 tx, .slice A n1 c1] W fun e w' => e = .returned (.tuple #[.agg #[.int .i64 (pgOr (liF size tx ps ns k)).kd, .int .i64 (pgOr (liF size tx ps ns k)).ct, .int .u32 (pgOr (liF size tx ps ns k)).pg, .int .u32 (pgOr (liF size tx ps ns k)).lk, .int .u64 (pgOr (liF size tx ps ns k)).tx, .string (pgOr (liF size tx ps ns k)).bd], .int .i64 (errOr (liF size tx ps ns k))]) ∧ Below W.heap.size W w' := by
  have hm := mostN_le size
  have hln := ulen hr
  have hll : l.length ≤ 1018 := by rw [hl, List.length_take]; omega
  unfold liF
  rw [← hl]
  rcases hm : mayP10 size (nthU ps k) (nextL ps k) tx l with _ | _
  · exact fpage10_no size _ _ _ A n1 c1 l W hr (by omega) hm
  · have hgs : goodSize size = true := by simp only [mayP10, Bool.and_eq_true] at hm; exact hm.1
    obtain ⟨z, rfl, _⟩ := good_nat hgs
    subst hln
    have h := fpage10_yes z _ _ _ A l.length c1 l W hr hm
    rw [if_pos rfl, Int.toNat_natCast]
    exact h
theorem liF_yes {z tx : Nat} {ps ns : List Nat} {L : List Pg} (ho : listsL z tx ps ns = some L) {k : Nat} (hk : k < ps.length) : liF z tx ps ns k = some (liPg z tx ps ns k) := by
  have e2 := li_part ho hk
  unfold liF liPg
  rw [if_pos e2]
  simp only [Int.toNat_natCast]
theorem li_is (size : Int) (tx : Nat) (ps ns : List Nat) (h1 : goodSize size = true) (h2 : ascU ns = true) (h4 : needF size ns.length ≤ ps.length) (h5 : ps.Nodup) (h6 : tx ≤ 4611686018427387904) : linkG (liF size tx ps ns) ps.length = listsL size tx ps ns := by
  obtain ⟨z, rfl, hz1, hz2, _⟩ := good_nat h1
  rcases h7 : fineL ps with _ | _
  · have hno : listsL z tx ps ns = none := by
      unfold listsL
      rw [if_neg]
      simp only [Bool.and_eq_true, decide_eq_true_eq]
      rintro ⟨_, _, _, h, _⟩
      rw [h7] at h; cases h
    rw [hno]
    have h8 : ps.all numB = false := by
      rcases h9 : ps.all numB with _ | _
      · rfl
      · unfold fineL at h7
        rw [h9, decide_eq_true h5] at h7
        cases h7
    rw [List.all_eq_false] at h8
    obtain ⟨x, hx, hn⟩ := h8
    obtain ⟨i, hi, rfl⟩ := List.mem_iff_getElem.1 hx
    refine linkG_bad (k := i) ?_ hi
    unfold liF
    rw [if_neg]
    intro h
    obtain ⟨_, _, _, _, h9, _⟩ := mayP10_parts h
    rw [show nthU ps i = ps[i] by unfold nthU; rw [List.getElem?_eq_getElem hi]; rfl] at h9
    exact hn h9
  rcases h3 : allU ns with _ | _
  · have hno : listsL z tx ps ns = none := by
      unfold listsL
      rw [if_neg]
      simp only [Bool.and_eq_true, decide_eq_true_eq]
      rintro ⟨_, ⟨h, _⟩, _⟩
      rw [h3] at h; cases h
    rw [hno]
    have h8 : ¬ ∀ i, i < ns.length → numB (nthU ns i) = true := by
      intro h; rw [allU_at.2 h] at h3; cases h3
    obtain ⟨j, hj0⟩ := Classical.not_forall.1 h8
    obtain ⟨hj, hjn⟩ := Classical.not_imp.1 hj0
    have hmo : 0 < mostN z := by have := mostN_good h1; omega
    have hjm : j / mostN z < ps.length := by
      refine Nat.lt_of_lt_of_le ?_ h4
      unfold needF
      rw [h1, decide_eq_true (show (1 : Int) ≤ (ns.length : Int) by omega)]
      simp only [Bool.and_self, if_true, Int.toNat_natCast]
      have : j / mostN z ≤ (ns.length - 1) / mostN z := Nat.div_le_div_right (by omega)
      omega
    refine linkG_bad (k := j / mostN z) ?_ hjm
    unfold liF
    rw [if_neg]
    intro h
    obtain ⟨_, h9, _⟩ := mayP10_parts h
    have hdm := Nat.div_add_mod j (mostN z)
    have hml := Nat.mod_lt j hmo
    have hcomm : j / mostN z * mostN z = mostN z * (j / mostN z) := Nat.mul_comm _ _
    have h10 := allU_at.1 h9 (j % mostN z) (by rw [List.length_take, List.length_drop]; omega)
    apply hjn
    rw [← h10]
    congr 1
    unfold nthU
    rw [List.getElem?_take_of_lt hml, List.getElem?_drop, show j / mostN z * mostN z + j % mostN z = j by omega]
  · obtain ⟨L, ho⟩ : ∃ L, listsL z tx ps ns = some L := by
      unfold listsL
      rw [if_pos]
      · exact ⟨_, rfl⟩
      · rw [h1, h2, h3, h7, decide_eq_true h4, decide_eq_true h6]; rfl
    have hL := (listsL_some ho).2.2.2.2.2.2
    rw [ho, hL]
    exact linkG_all fun k hk => liF_yes ho hk
theorem listsL_noD {size : Int} {tx : Nat} {ps ns : List Nat} (h : goodSize size = false ∨ ascU ns = false ∨ ps.length < needF size ns.length ∨ ¬ ps.Nodup ∨ 4611686018427387904 < tx) : listsL size tx ps ns = none := by
  unfold listsL
  rw [if_neg]
  simp only [Bool.and_eq_true, decide_eq_true_eq]
  rintro ⟨h1, ⟨_, h2⟩, h3, h4, h5⟩
  rcases h with h | h | h | h | h
  · rw [h1] at h; cases h
  · rw [h2] at h; cases h
  · omega
  · exact h (fine_nodup h4)
  · omega
set_option maxRecDepth 100000 in
set_option maxHeartbeats 6400000 in
theorem hlists_gen {M : Nat} (HD : DistOK M) (size : Int) (tx : Nat) (A : Option Addr) (n c : Nat) (ps : List Nat) (A2 : Option Addr) (n2 c2 : Nat) (ns : List Nat) (w : World) (hr : Reads w w.heap.size 1 A n (ucells ps)) (hn : n ≤ M) (hn9 : n ≤ 1000000) (hr2 : Reads w w.heap.size 1 A2 n2 (ucells ns)) (hn2 : n2 ≤ 1000000) (hcc : n2 ≤ c2) :
    Calls Try.prog 12 #[.int .i64 size, .int .u64 tx, .slice A n c, .slice A2 n2 c2] w (PgsPost (listsL size tx ps ns) w) := by
  have hnl := ulen hr
  have hnl2 := ulen hr2
  have HG := fun (b : Bool) (h : goodSize size = b) (w : World) => dgood_is size b w h
  have HN := fun w => fneed_any size n2 w (by omega)
  have HR := Lib.hid (fun (w1 : World) (hb : Below w.heap.size w w1) => frises_any A2 n2 c2 ns w1 ((hr2.below hb).more hb.size) hn2)
  have HDw := Lib.hid (fun (w1 : World) (hb : Below w.heap.size w w1) => HD A n c ps w1 ((hr.below hb).more hb.size) hn)
  obtain ⟨nd, hnd⟩ : ∃ x, x = needF size n2 := ⟨_, rfl⟩
  rw [← hnd] at HN
  obtain ⟨fb, hfb⟩ : ∃ b, b = decide (nd ≤ n) := ⟨_, rfl⟩
  have f1 : decide ((nd : Int) ≤ (n : Int)) = fb := by rw [hfb]; simp
  have f2 : decide (nd ≤ n) = fb := hfb.symm
  rcases hg : goodSize size with _ | _
  · have HE := Lib.hid (listsL_noD (tx := tx) (ps := ps) (ns := ns) (.inl hg))
    clear hnl hnl2 hnd hfb
    go_enter Try.func12, Try.ntmps12
    go_wp2_with (first
      | (go_at_call 29; refine (HG _ hg _).mono ?_; rintro e w' ⟨rfl, rfl⟩)
      | (go_at_call 35; refine (HN _).mono ?_; rintro e w1 ⟨rfl, hb1⟩))
    go_ret2
    rw [HE.out]
    exact ⟨rfl, hb1⟩
  by_cases ht : 4611686018427387904 < tx
  · have HE := Lib.hid (listsL_noD (size := size) (ps := ps) (ns := ns) (.inr (.inr (.inr (.inr ht)))))
    have t1 : decide ((4611686018427387904 : Int) < (tx : Int)) = true := by simp; omega
    have t2 : decide (4611686018427387904 < tx) = true := by simp; omega
    clear hnl hnl2 hnd hfb ht
    go_enter Try.func12, Try.ntmps12
    go_wp2_with (first
      | (go_at_call 29; refine (HG _ hg _).mono ?_; rintro e w' ⟨rfl, rfl⟩)
      | (go_at_call 35; refine (HN _).mono ?_; rintro e w1 ⟨rfl, hb1⟩))
    go_ret2
    rw [HE.out]
    exact ⟨rfl, hb1⟩
  have t1 : decide ((4611686018427387904 : Int) < (tx : Int)) = false := by simp; omega
  have t2 : decide (4611686018427387904 < tx) = false := by simp; omega
  rcases fb with _ | _
  · have HE := Lib.hid (listsL_noD (size := size) (tx := tx) (ps := ps) (ns := ns) (.inr (.inr (.inl (by have := of_decide_eq_false f2; rw [hnl, hnl2, ← hnd]; omega)))))
    clear hnl hnl2 hnd hfb ht
    go_enter Try.func12, Try.ntmps12
    go_wp2_with (first
      | (go_at_call 29; refine (HG _ hg _).mono ?_; rintro e w' ⟨rfl, rfl⟩)
      | (go_at_call 35; refine (HN _).mono ?_; rintro e w1 ⟨rfl, hb1⟩))
    go_ret2
    rw [HE.out]
    exact ⟨rfl, hb1⟩
  rcases ha : ascU ns with _ | _
  · have HE := Lib.hid (listsL_noD (size := size) (tx := tx) (ps := ps) (.inr (.inl ha)))
    rw [ha] at HR
    clear hnl hnl2 hnd hfb ht
    go_enter Try.func12, Try.ntmps12
    go_wp2_with (first
      | (go_at_call 29; refine (HG _ hg _).mono ?_; rintro e w' ⟨rfl, rfl⟩)
      | (go_at_call 35; refine (HN _).mono ?_; rintro e w1 ⟨rfl, hb1⟩)
      | (go_at_call 36; refine (HR.out _ hb1).mono ?_; rintro e w2 ⟨rfl, hb2⟩))
    go_ret2
    rw [HE.out]
    exact ⟨rfl, hb1.trans (hb2.mono hb1.size)⟩
  rw [ha] at HR
  rcases hd : decide ps.Nodup with _ | _
  · have HE := Lib.hid (listsL_noD (size := size) (tx := tx) (ns := ns) (.inr (.inr (.inr (.inl (of_decide_eq_false hd))))))
    have HDx := Lib.hid (fun (w1 : World) (hb : Below w.heap.size w w1) => (HDw.out w1 hb).mono (R' := fun e w' => e = .returned (.bool false) ∧ Below w1.heap.size w1 w') (fun e w' h => ⟨by rw [h.1, hd], h.2⟩))
    clear hnl hnl2 hnd hfb ht hd HDw
    go_enter Try.func12, Try.ntmps12
    go_wp2_with (first
      | (go_at_call 29; refine (HG _ hg _).mono ?_; rintro e w' ⟨rfl, rfl⟩)
      | (go_at_call 35; refine (HN _).mono ?_; rintro e w1 ⟨rfl, hb1⟩)
      | (go_at_call 36; refine (HR.out _ hb1).mono ?_; rintro e w2 ⟨rfl, hb2⟩)
      | (go_at_call 37; refine (HDx.out _ (hb1.trans (hb2.mono hb1.size))).mono ?_; rintro e w3 ⟨rfl, hb3⟩))
    go_ret2
    rw [HE.out]
    have hb := hb1.trans (hb2.mono hb1.size)
    exact ⟨rfl, hb.trans (hb3.mono hb.size)⟩
  have HDx := Lib.hid (fun (w1 : World) (hb : Below w.heap.size w w1) => (HDw.out w1 hb).mono (R' := fun e w' => e = .returned (.bool true) ∧ Below w1.heap.size w1 w') (fun e w' h => ⟨by rw [h.1, hd], h.2⟩))
  obtain ⟨o, ho⟩ : ∃ o, o = listsL size tx ps ns := ⟨_, rfl⟩
  have hIs : linkG (liF size tx ps ns) n = o := by
    rw [← hnl, ho]
    exact li_is size tx ps ns hg ha (by have := of_decide_eq_true f2; rw [hnl, hnl2, ← hnd]; exact this) (of_decide_eq_true hd) (by omega)
  rw [← ho]
  obtain ⟨mo, hmo⟩ : ∃ x, x = mostN size := ⟨_, rfl⟩
  have HM := fun w => fmost_any size w
  rw [← hmo] at HM
  have HDe := Lib.hid (fun (w1 : World) (hb : Below w.heap.size w w1) => hdealt_any A2 n2 c2 ns mo n w1 ((hr2.below hb).more hb.size) hn2 hcc hn9 (by rw [hmo]; exact mostN_le _))
  have HLk := Lib.hid (fun (W : World) (B : Option Addr) (d : Nat) (cs : List Value) (hw : Below w.heap.size w W) (hp : Reads W W.heap.size 1 B n cs) (hl : LsRead W cs (dealL mo n ns)) => hlinkL_any size tx A n c ps B d cs (dealL mo n ns) (liF size tx ps ns) W ((hr.below hw).more hw.size) hn9 hp hl (fun k A1 n1 c1 l W' hs hr1 => fpage_all size tx ps ns k 0 A1 n1 c1 l W' (by
    have hk : k < n := by have := (List.getElem?_eq_some_iff.1 hs).1; rwa [dealL_len] at this
    rw [dealL_at hk] at hs
    injection hs with hs
    rw [← hs, hmo]) hr1))
  rw [hIs] at HLk
  clear hnl hnl2 hnd hfb ht hd HDw hIs ho hmo hr hr2
  go_enter Try.func12, Try.ntmps12
  go_upto_region 4 with (first
    | (go_at_call 29; refine (HG _ hg _).mono ?_; rintro e w' ⟨rfl, rfl⟩)
    | (go_at_call 35; refine (HN _).mono ?_; rintro e w1 ⟨rfl, hb1⟩)
    | (go_at_call 36; refine (HR.out _ hb1).mono ?_; rintro e w2 ⟨rfl, hb2⟩)
    | (go_at_call 37; refine (HDx.out _ (hb1.trans (hb2.mono hb1.size))).mono ?_; rintro e w3 ⟨rfl, hb3⟩))
  have HB3 := Lib.hid (show Below w.heap.size w w3 from by have hb := hb1.trans (hb2.mono hb1.size); exact hb.trans (hb3.mono hb.size))
  clear hb1 hb2 hb3
  go_wp2_with (first
    | (go_at_call 40; refine (HM _).mono ?_; rintro e w4 ⟨rfl, hb4⟩
       have HB4 := Lib.hid (HB3.out.trans (hb4.mono HB3.out.size))
       clear hb4)
    | (go_at_call 39; refine (HDe.out _ HB4.out).mono ?_; rintro e w5 ⟨B, d, cs, rfl, hr5, hl5, hb5⟩
       have HB5 := Lib.hid (HB4.out.trans (hb5.mono HB4.out.size))
       clear hb5)
    | (go_at_call 38; refine (HLk.out _ B d cs HB5.out hr5 hl5).mono ?_))
  rintro e w6 h2
  clear hr5 hl5
  cases o with
  | none =>
    obtain ⟨rfl, hb⟩ := h2
    have HB6 := Lib.hid (HB5.out.trans (hb.mono HB5.out.size))
    clear hb
    go_wp2_with fail
    go_ret2
    exact ⟨rfl, HB6.out⟩
  | some L =>
    obtain ⟨A3, n3, c3, rfl, hr3, hb⟩ := h2
    have HR3 := Lib.hid hr3
    have HB6 := Lib.hid (HB5.out.trans (hb.mono HB5.out.size))
    clear hb hr3
    go_wp2_with fail
    go_ret2
    exact ⟨A3, n3, c3, rfl, HR3.out, HB6.out⟩
end Go.Proofs.Ytabhhccdbfjigaa
namespace Go.Proofs.Ytabhhccdbfjigaa
open Go.RowKit
open Go.Lib hiding intOf
set_option linter.unusedVariables false
set_option linter.unusedSimpArgs false

theorem hon_any (size : Int) (tx : Nat) (A : Option Addr) (n c : Nat) (ps : List Nat) (v : ByteArray) (w : World) (hr : Reads w w.heap.size 1 A n (ucells ps)) (hn : n ≤ 12) (hv : v.size ≤ 1000000) :
    Calls Try.prog 14 #[.int .i64 size, .int .u64 tx, .slice A n c, .string v] w (PgsPost (onL size tx ps v) w) :=
  hon_gen dist12 size tx A n c ps v w hr hn (by omega) hv
theorem hpages_any (size : Int) (tx f : Nat) (v : ByteArray) (w : World) (hf : f < 4294967296) (hv : v.size ≤ 1000000) (hM : v.size ≤ 4096 → needN size v.size ≤ 12) :
    Calls Try.prog 9 #[.int .i64 size, .int .u64 tx, .int .u32 f, .string v] w (PgsPost (pagesL size tx f v) w) :=
  hpages_gen dist12 size tx f v w hf hv hM
theorem hlists_any (size : Int) (tx : Nat) (A : Option Addr) (n c : Nat) (ps : List Nat) (A2 : Option Addr) (n2 c2 : Nat) (ns : List Nat) (w : World) (hr : Reads w w.heap.size 1 A n (ucells ps)) (hn : n ≤ 12) (hr2 : Reads w w.heap.size 1 A2 n2 (ucells ns)) (hn2 : n2 ≤ 1000000) (hcc : n2 ≤ c2) :
    Calls Try.prog 12 #[.int .i64 size, .int .u64 tx, .slice A n c, .slice A2 n2 c2] w (PgsPost (listsL size tx ps ns) w) :=
  hlists_gen dist12 size tx A n c ps A2 n2 c2 ns w hr hn (by omega) hr2 hn2 hcc
end Go.Proofs.Ytabhhccdbfjigaa
