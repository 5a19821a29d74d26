/-
  The walk of the statement DeviceWhole (a crash keeps whole pages): from every start, at every argument, it returns true and changes no block that was there before.
-/
import Derived.Test.YtmkejkmgpigmhaaDevUse
import Derived.Test.YtmkejkmgpigmhaaDevPages
import Derived.Deep.RegionHeld3
namespace Go.Proofs.Ytmkejkmgpigmhaa
open Go.RowKit
open Go.Lib hiding intOf
set_option linter.unusedVariables false
set_option linter.unusedSimpArgs false

def abc : ByteArray := ⟨#[97, 98, 99, 100, 101, 102, 103, 104, 105, 106, 107, 108, 109, 110, 111, 112, 113, 114, 115, 116, 117, 118, 119, 120, 121, 122]⟩
theorem abc_at : ∀ i : Fin 20, (abc.extract i.1 (i.1 + 1)).data.toList = [UInt8.ofNat (97 + i.1)] := by decide
def letterBlk (i : Nat) : ByteArray := reps (abc.extract i (i + 1)) 128
theorem letter_size (i : Nat) (hi : i < 20) : (abc.extract i (i + 1)).size = 1 := by
  rw [← size_list, abc_at ⟨i, hi⟩]; rfl
theorem letterBlk_list (i : Nat) (hi : i < 20) : (letterBlk i).data.toList = List.replicate 128 (UInt8.ofNat (97 + i)) := by
  unfold letterBlk
  rw [reps_list, abc_at ⟨i, hi⟩, rep_one]
theorem letterBlk_size (i : Nat) (hi : i < 20) : (letterBlk i).size = 128 := by rw [← size_list, letterBlk_list i hi, List.length_replicate]
/-- The page of the j-th write. -/
def wq (zs : List Int) (j : Nat) : Nat := (zs.getD j 0 % 12).toNat
def wops (zs : List Int) (k : Nat) : List POp := (List.range k).map fun i => .wr (wq zs i) (letterBlk i)
theorem wops_snoc (zs : List Int) (k : Nat) : wops zs (k + 1) = wops zs k ++ [.wr (wq zs k) (letterBlk k)] := by simp [wops, List.range_succ]
theorem wops_len (zs : List Int) (k : Nat) : (wops zs k).length = k := by simp [wops]
theorem wops_at (zs : List Int) (k j : Nat) (hj : j < k) : (wops zs k)[j]? = some (.wr (wq zs j) (letterBlk j)) := by
  simp [wops, hj]
theorem rep_page (P n : Nat) (hn : n < P) : pg 128 n (List.replicate (128 * P) (46 : UInt8)) = List.replicate 128 46 := by
  unfold pg
  have : n * 128 + 128 ≤ 128 * P := by omega
  rw [List.drop_replicate, List.take_replicate]
  congr 1
  omega

theorem Dev.count_le {w : World} {F : Nat → Prop} {g : Nat} {S : DevS} (h : Dev w F g S) : S.img.length / S.size ≤ S.cap := by
  obtain ⟨m1, m2, A1, n1, c1, A2, n2, c2, A3, n3, c3, X, pc, h⟩ := h
  rw [← h.b1, Img.count h.good1]
  exact h.p1
theorem pages_is {w : World} {F : Nat → Prop} {g : Nat} {S : DevS} (h : Dev w F g S) {n : Nat} (hn : S.img.length / S.size = n) :
    Calls Try.prog 24 #[.pointer (some ⟨g, 0, none⟩)] w fun e w' => e = .returned (.int .i64 n) ∧ w = w' := by
  have := dpages_any h
  rw [hn] at this
  exact this
/-- What a page shows behind a write, of the kept numbers m being looked at. -/
def ins (l : List Int) (m k3 q n s : Nat) : Nat := if (l.take m).contains (k3 : Int) = true ∧ q = n then 97 + k3 else s
theorem ins_zero (l : List Int) (k3 q n s : Nat) : ins l 0 k3 q n s = s := by unfold ins; rw [if_neg]; simp
theorem take_contains {l : List Int} {m : Nat} {y : Int} (h : l[m]? = some y) (x : Int) : (l.take (m + 1)).contains x = ((l.take m).contains x || x == y) := by
  have hm := (List.getElem?_eq_some_iff.1 h).1
  have e : l[m] = y := (List.getElem?_eq_some_iff.1 h).2
  rw [List.take_succ_eq_append_getElem hm, e, List.contains_append, Bool.eq_iff_iff]
  simp
theorem ins_hit {l : List Int} {m k3 q n s : Nat} {y : Int} (h : l[m]? = some y) (hy : y = (k3 : Int)) (hq : q = n) : ins l (m + 1) k3 q n s = 97 + k3 := by
  unfold ins
  rw [take_contains h, if_pos ⟨by rw [hy]; simp, hq⟩]
theorem ins_miss {l : List Int} {m k3 q n s : Nat} {y : Int} (h : l[m]? = some y) (hy : y ≠ (k3 : Int) ∨ q ≠ n) : ins l (m + 1) k3 q n s = ins l m k3 q n s := by
  unfold ins
  rw [take_contains h]
  rcases hy with hy | hq
  · have : ((k3 : Int) == y) = false := by simp; exact fun e => hy e.symm
    rw [this, Bool.or_false]
  · rw [if_neg (fun e => hq e.2), if_neg (fun e => hq e.2)]
/-- The device behind k writes. -/
def WholeAt (w : World) (g P : Nat) (zs : List Int) (k : Nat) (wr : World) : Prop :=
  ∃ F img, Dev wr F g ⟨128, 12, img, List.replicate (128 * P) 46, wops zs k, -1, k⟩ ∧ (∀ j, F j → w.heap.size ≤ j) ∧ Below w.heap.size w wr
/-- The device behind the crash. -/
def CrashAt (w : World) (g : Nat) (img : List UInt8) (wr : World) : Prop :=
  ∃ F S, Dev wr F g S ∧ S.size = 128 ∧ S.img = img ∧ (∀ j, F j → w.heap.size ≤ j) ∧ Below w.heap.size w wr

set_option maxHeartbeats 6400000 in
set_option maxRecDepth 100000 in
theorem whole_walk (x : Int) (a : Option Addr) (len cap : Nat) (zs : List Int) (a' : Option Addr) (len' cap' : Nat) (ks : List Int) (w : World) (hx : (Lit.int .i64 x).wf = true) (hz : IsRow .i64 w a len cap zs) (hz' : IsRow .i64 w a' len' cap' ks) :
    Calls Try.prog 6 #[.int .i64 x, .slice a len cap, .slice a' len' cap'] w fun e w' => e = .returned (.bool true) ∧ Below w.heap.size w w' := by
  have hr := hz.reads
  have hr' := hz'.reads
  obtain ⟨P0, hP0⟩ : ∃ P0 : Nat, x % ((10 : Nat) : Int) = (P0 : Int) := ⟨(x % 10).toNat, by omega⟩
  have hP10 : P0 < 10 := by omega
  obtain ⟨P, hP⟩ : ∃ P : Nat, P = 2 + P0 := ⟨_, rfl⟩
  obtain ⟨PB, hPB⟩ : ∃ PB : Nat, PB = 128 * P := ⟨_, rfl⟩
  have hPl : P ≤ 11 := by omega
  have hPBl : PB ≤ 1408 := by omega
  have eP : (2 : Int) + (P0 : Int) = (P : Int) := by omega
  have ePB : (128 : Int) * (P : Int) = (PB : Int) := by omega
  obtain ⟨D, hD⟩ : ∃ D, D = reps ⟨#[46]⟩ PB := ⟨_, rfl⟩
  have hDs : D.size = PB := by rw [hD, reps_lit_size]
  have hDl : D.data.toList = List.replicate (128 * P) 46 := by rw [hD, reps_list, ← hPB]; exact rep_one 46 PB
  have p10 := fun W => pick_any x 10 W (by decide) (by decide)
  rw [hP0] at p10
  have tD := fun W => times_any ⟨#[46]⟩ PB W (by omega) (by decide)
  rw [← hD] at tD
  have HX := Lib.hid hx
  have HZ := Lib.hid hz
  have HZ' := Lib.hid hz'
  have HR := Lib.hid hr
  have HR' := Lib.hid hr'
  have HP0 := Lib.hid hP0
  have HP := Lib.hid hP
  have HPB := Lib.hid hPB
  have HDS := Lib.hid hDs
  have HDL := Lib.hid hDl
  clear hx hz hz' hr hr' hP0 hP hPB hD hDs hDl
  go_enter Try.func6, Try.ntmps6
  go_wp2_with fail
  refine (lives_any w).mono ?_
  rintro e w1 ⟨rfl, hb1⟩
  go_wp2_with fail
  refine (p10 _).mono ?_
  rintro e w' ⟨rfl, rfl⟩
  by_cases hlim : len ≤ 20 ∧ len' ≤ 100
  · obtain ⟨hl1, hl2⟩ := hlim
    have q1 : ¬ (20 : Int) < len := by omega
    have q2 : ¬ (100 : Int) < len' := by omega
    have hn := dnew_ok 128 12 D w1 (by decide) (by decide) (by decide) (by rw [HDS.out]; omega)
    rw [HDL.out] at hn
    go_wp2_with fail
    refine (tD _).mono ?_
    rintro e w' ⟨rfl, rfl⟩
    go_wp2_with fail
    refine hn.mono ?_
    rintro e w2 ⟨g, rfl, hd, hb2⟩
    have hst : WholeAt w g P zs 0 w2 := ⟨_, _, hd, fun j hj => Nat.le_trans hb1.size hj.1, hb1.trans (hb2.mono hb1.size)⟩
    have HS := Lib.hid hst
    clear hst hd hb2 hb1 hn p10 tD
    go_wp2_with fail
    go_loopw [9] (fun i wr => ∃ k : Nat, k ≤ len ∧ i = .int .i64 k ∧ Hid (WholeAt w g P zs k wr)) (fun i _ => len - (RowKit.intOf i).toNat)
    case atStart => exact ⟨0, Nat.zero_le _, rfl, HS⟩
    case round =>
      clear HS
      obtain ⟨k, hk, rfl, HS⟩ := hrel
      obtain ⟨F, img, hd, hF, hb⟩ := HS.out
      by_cases hlt : k < len
      · obtain ⟨ad, z, rfl, hab, hzz, hc⟩ := int_at HR.out.1 hlt
        obtain ⟨q, hq⟩ : ∃ q : Nat, z % ((12 : Nat) : Int) = (q : Int) := ⟨(z % 12).toNat, by omega⟩
        have hq12 : q < 12 := by omega
        have hzg : zs.getD k 0 = z := by
          rw [List.getElem?_take_of_lt hlt] at hzz
          rw [List.getD, hzz]; rfl
        have hqk : q = wq zs k := by unfold wq; rw [hzg]; omega
        obtain ⟨k1, hk1⟩ : ∃ k1, k1 = k + 1 := ⟨_, rfl⟩
        have aw : IntKind.i64.wrap ((k : Int) + 1) = (k1 : Int) := by rw [IntKind.wrap_i64]; omega
        have aq : IntKind.u32.wrap (q : Int) = (q : Int) := by rw [IntKind.wrap_u32]; omega
        obtain ⟨LB, hLB⟩ : ∃ LB, (⟨#[97, 98, 99, 100, 101, 102, 103, 104, 105, 106, 107, 108, 109, 110, 111, 112, 113, 114, 115, 116, 117, 118, 119, 120, 121, 122]⟩ : ByteArray).extract k k1 = LB := ⟨_, rfl⟩
        have hLBs : LB.size = 1 := by rw [← hLB, hk1]; exact letter_size k (by omega)
        have hblk : reps LB 128 = letterBlk k := by unfold letterBlk; rw [← hLB, hk1]; rfl
        obtain ⟨bk, hbk⟩ : ∃ bk, bk = letterBlk k := ⟨_, rfl⟩
        have hbks : bk.size = 128 := by rw [hbk, letterBlk_size k (by omega)]
        have tB : ∀ W : World, Calls Try.prog 10 #[.string LB, .int .i64 128] W fun e w' => e = .returned (.string bk) ∧ W = w' := fun W => by
          have := times_any LB 128 W (by decide) (by rw [hLBs]; decide)
          rw [hblk, ← hbk] at this
          exact this
        have pk : ∀ W : World, Calls Try.prog 31 #[.int .i64 z, .int .i64 12] W fun e w' => e = .returned (.int .i64 q) ∧ W = w' := fun W => by
          have := pick_any z 12 W (by decide) (by decide)
          rw [hq] at this
          exact this
        have hd2 := DevAt.drew hd
        have hw := dwrite_yes hd2 q bk hbks hq12 (fun h => absurd (show (-1 : Int) = 0 from h) (by decide)) (by show -9223372036854775808 ≤ (-1 : Int); decide) (by show (-1 : Int) ≤ 9223372036854775807; decide) (by show k ≤ 4294967296; omega)
        have hcr : wr.cell? (ad.add k) = some (.int .i64 z) := cell_in hc hb hab
        have b0 : (0 : Int) ≤ k := by omega
        have b1 : (k : Int) < len := by omega
        have b2 : (0 : Int) ≤ k1 := by omega
        have b3 : (k : Int) ≤ k1 := by omega
        have b4 : (k1 : Int) ≤ 26 := by omega
        have HQK := Lib.hid hqk
        have HBK := Lib.hid hbk
        have HK1 := Lib.hid hk1
        have HB := Lib.hid hb
        have HFF := Lib.hid hF
        have hzl : True := trivial
        clear hzz hq hzg hqk hk1 hLBs hblk hbk hb hF hd hc
        go_wp2_with fail
        go_region_held3 (fun w' => w'.cell? (ad.add k) = some (.int .i64 z))
          (first | exact hcr | exact hcr2)
          (first
            | (go_at_call 31; (with_reducible refine (pk _).mono ?_); rintro e w' ⟨rfl, rfl⟩)
            | (go_at_call 10; (with_reducible refine (tB _).mono ?_); rintro e w' ⟨rfl, rfl⟩)
            | (go_at_call 13
               (with_reducible refine hw.mono ?_)
               rintro e w5 ⟨rfl, hd6, hk6⟩
               have hcr2 : w5.cell? (ad.add k) = some (.int .i64 z) := (hk6.cell (p := ad.add k) (by rw [block_add]; show _ < wr.heap.size; have := HB.out.size; omega) (by rw [block_add]; intro h; have := HFF.out _ h; omega)).trans hcr))
        go_wp2_with fail
        clear aw aq
        have hk1 := HK1.out
        subst hk1
        go_roundw
        case rel =>
          refine ⟨k + 1, by omega, by go_num, ?_⟩
          have hd7 : Dev w5 (Grow F wr.drew w5) g ⟨128, 12, bWrite 128 q bk.data.toList img, List.replicate (128 * P) 46, wops zs (k + 1), -1, k + 1⟩ := by
            rw [wops_snoc, ← HQK.out, ← HBK.out]
            exact hd6
          exact Lib.hid ⟨_, _, hd7, grow_ge HFF.out (w := wr.drew) HB.out.size, (HB.out.drew).trans (hk6.below HFF.out HB.out.size)⟩
        case measure => simp [RowKit.intOf]; omega
      · obtain rfl : k = len := by omega
        have hrr := (HR'.out.1.below hb).more hb.size
        have hlen' : len' ≤ 4294967296 := by omega
        have ho := own_any cap' hrr hlen'
        have hFlt := hd.lt
        clear hrr hlt
        go_wp2_with fail
        refine ho.mono ?_
        rintro e w3 ⟨A', c', rfl, hown3, hb3⟩
        have hd3 := hd.new hb3
        have hcr := dcrash_any hd3 (by show k ≤ 4294967296; omega) c' (Reads.of_own hown3) (by unfold maxLen; omega) (by
          rintro a rfl h
          have h1 := (hown3.lt a.block rfl).1
          have h2 := hFlt _ h
          omega)
        go_wp2_with fail
        refine hcr.mono ?_
        rintro e w4 ⟨rfl, hd4, hk4⟩
        have hql : ∀ j, j < (wops zs k).length → ∃ b : ByteArray, (wops zs k)[j]? = some (.wr (wq zs j) b) ∧ b.data.toList = List.replicate 128 (UInt8.ofNat (97 + j)) := by
          intro j hj
          rw [wops_len] at hj
          exact ⟨_, wops_at zs k j hj, letterBlk_list j (by omega)⟩
        obtain ⟨c, hc1, hc2, hc3⟩ := whole_img (wq zs) (ks.take len') P (wops zs k) (List.replicate (128 * P) 46) (by rw [List.length_replicate]; omega) (fun n hn => rep_page P n hn) hql (wops zs k).length (Nat.le_refl _)
        rw [wops_len] at hc1 hc2 hc3
        obtain ⟨IM, hIM⟩ : ∃ IM, IM = keepUp 128 (ks.take len') (wops zs k) (List.replicate (128 * P) 46) k := ⟨_, rfl⟩
        rw [← hIM] at hc1 hc2
        have s1 := hb.size
        have s3 := hb3.size
        have hb4 : Below w.heap.size w w4 := (hb.trans (hb3.mono s1)).trans (hk4.below hF (by omega))
        have hst : CrashAt w g IM w4 := ⟨_, _, hd4, rfl, by rw [hIM]; show keepUp _ _ _ _ (wops zs k).length = _; rw [wops_len], grow_ge hF (w := w3) (Nat.le_trans s1 s3), hb4⟩
        have hc12 : c ≤ 12 := by
          have h1 := Dev.count_le hd4
          have h2 : (keepUp 128 (ks.take len') (wops zs k) (List.replicate (128 * P) 46) (wops zs k).length).length / 128 ≤ 12 := h1
          rw [wops_len, ← hIM, hc1] at h2
          omega
        have HS2 := Lib.hid hst
        have HC1 := Lib.hid hc1
        have HC2 := Lib.hid hc2
        clear hst hc1 hc2 hc3 hIM hb4 hd4 hk4 hcr hd3 hown3 hb3 hd hF hb ho hFlt hql HS s1 s3
        go_wp2_with fail
        go_loopw [10] (fun i wr => ∃ n : Nat, n ≤ c ∧ i = .int .i64 n ∧ Hid (CrashAt w g IM wr)) (fun i _ => c - (RowKit.intOf i).toNat)
        case atStart => exact ⟨0, Nat.zero_le _, rfl, HS2⟩
        case round =>
          clear HS2
          obtain ⟨n, hn, rfl, HS2⟩ := hrel
          obtain ⟨F, S, hd, e1, e2, hF, hb⟩ := HS2.out
          have hpg := pages_is hd (n := c) (by rw [e1, e2, HC1.out]; omega)
          by_cases hnc : n < c
          · obtain ⟨sg, hsg⟩ : ∃ sg : Nat → Nat, sg = fun j => sgn (wq zs) (ks.take len') P j n := ⟨_, rfl⟩
            have hrd := read_is hd n (by rw [e1, e2, HC1.out]; omega) (p := reps ⟨#[UInt8.ofNat (sg k)]⟩ 128) (by
              rw [e1, e2, reps_list]
              have := HC2.out n hnc
              unfold pg at this
              rw [this, hsg]
              exact (rep_one _ 128).symm)
            have hsl : ∀ j, j ≤ k → sg j < 256 := fun j hj => by rw [hsg]; exact sgn_lt _ _ _ j n (by omega)
            have hs1 : ∀ j, sg (j + 1) = if (ks.take len').contains (j : Int) = true ∧ wq zs j = n then 97 + j else sg j := fun j => by rw [hsg]; rfl
            obtain ⟨b, hbv⟩ : ∃ b : UInt8, sg k = b.toNat := ⟨UInt8.ofNat (sg k), by have := hsl k (Nat.le_refl _); simp only [UInt8.toNat_ofNat']; omega⟩
            have hbv2 : UInt8.ofNat (sg k) = b := by rw [hbv]; simp
            rw [hbv2] at hrd
            have hrz := (HR.out.1.below hb).more hb.size
            have hry := (HR'.out.1.below hb).more hb.size
            have cv := conv_one b (Blk.new wr 5 #[.int .u8 b.toNat])
            have tb := fun W => times_any ⟨#[b]⟩ 128 W (by decide) (by show 1 ≤ 1048576; decide)
            have hln : n ≤ 12 := by omega
            have hd5 := hd.new ((Below.refl _ wr).alloc (Nat.le_refl _) (.cells #[.int .u8 b.toNat] 5))
            have HSG := Lib.hid hsg
            have HSL := Lib.hid hsl
            have HS1 := Lib.hid hs1
            have HBV := Lib.hid hbv
            have HD5 := Lib.hid hd5
            have HE1 := Lib.hid e1
            have HE2 := Lib.hid e2
            have HFF := Lib.hid hF
            have HB := Lib.hid hb
            have HRZ := Lib.hid hrz
            have HRY := Lib.hid hry
            clear hsg hsl hs1 hbv hbv2 hd5 e1 e2 hF hb hrz hry
            by_cases hnP : n < P
            all_goals
              have hs0 : sg 0 = if n < P then 46 else 0 := by rw [HSG.out]; rfl
              first | rw [if_pos hnP] at hs0 | rw [if_neg hnP] at hs0
              have HS0 := Lib.hid hs0
              clear hs0
              go_wp2_with fail
              refine hpg.mono ?_
              rintro e w' ⟨rfl, rfl⟩
              go_wp2_with fail
              refine hrd.mono ?_
              rintro e w' ⟨rfl, rfl⟩
              go_wp2_with fail
              go_loop [13, 14] (fun s i => ∃ k3 : Nat, k3 ≤ k ∧ i = .int .i64 k3 ∧ s = .int .u8 (sg k3)) (fun _ i => k - (RowKit.intOf i).toNat)
              case atStart => exact ⟨0, Nat.zero_le _, rfl, by rw [HS0.out]; rfl⟩
              case round =>
                obtain ⟨k3, hk3, rfl, rfl⟩ := hrel
                by_cases hlt3 : k3 < k
                · obtain ⟨ad, z, rfl, hab, hzz, hc⟩ := int_at HRZ.out hlt3
                  obtain ⟨q, hq⟩ : ∃ q : Nat, z % ((12 : Nat) : Int) = (q : Int) := ⟨(z % 12).toNat, by omega⟩
                  have hzg : zs.getD k3 0 = z := by
                    rw [List.getElem?_take_of_lt hlt3] at hzz
                    rw [List.getD, hzz]; rfl
                  have hqk : wq zs k3 = q := by unfold wq; rw [hzg]; omega
                  have pk : ∀ W : World, Calls Try.prog 31 #[.int .i64 z, .int .i64 12] W fun e w' => e = .returned (.int .i64 q) ∧ W = w' := fun W => by
                    have := pick_any z 12 W (by decide) (by decide)
                    rw [hq] at this
                    exact this
                  have b0 : (0 : Int) ≤ k3 := by omega
                  have b1 : (k3 : Int) < k := by omega
                  have HQK := Lib.hid hqk
                  clear hzz hq hzg hqk
                  go_wp2_with fail
                  go_loop [13, 15] (fun s j => ∃ m : Nat, m ≤ len' ∧ j = .int .i64 m ∧ s = .int .u8 (ins (ks.take len') m k3 q n (sg k3))) (fun _ j => len' - (RowKit.intOf j).toNat)
                  case atStart => exact ⟨0, Nat.zero_le _, rfl, by rw [ins_zero]⟩
                  case round =>
                    obtain ⟨m, hm, rfl, rfl⟩ := hrel
                    by_cases hlt4 : m < len'
                    · obtain ⟨ad', y, rfl, hab', hyy, hc'⟩ := int_at HRY.out hlt4
                      have c0 : (0 : Int) ≤ m := by omega
                      have c1 : (m : Int) < len' := by omega
                      have HYY := Lib.hid hyy
                      clear hyy
                      by_cases hyk : y = (k3 : Int)
                      · have t1 : (y == (k3 : Int)) = true := by simpa using hyk
                        by_cases hqn : q = n
                        · have t2 : ((q : Int) == (n : Int)) = true := by simp [hqn]
                          have hi := ins_hit (s := sg k3) HYY.out hyk hqn
                          have HI := Lib.hid hi
                          clear hi hyk hqn
                          go_wp2_with (go_at_call 31; refine (pk _).mono ?_; rintro e w' ⟨rfl, rfl⟩)
                          go_round
                          case rel => exact ⟨m + 1, by omega, by go_num, by rw [HI.out]; go_num⟩
                          case measure => simp [RowKit.intOf]; omega
                        · have t2 : ((q : Int) == (n : Int)) = false := by simp; omega
                          have hi := ins_miss (k3 := k3) (s := sg k3) HYY.out (.inr hqn)
                          have HI := Lib.hid hi
                          clear hi hyk hqn
                          go_wp2_with (go_at_call 31; refine (pk _).mono ?_; rintro e w' ⟨rfl, rfl⟩)
                          go_round
                          case rel => exact ⟨m + 1, by omega, by go_num, by rw [HI.out]⟩
                          case measure => simp [RowKit.intOf]; omega
                      · have t1 : (y == (k3 : Int)) = false := by simpa using hyk
                        have hi := ins_miss (k3 := k3) (q := q) (n := n) (s := sg k3) HYY.out (.inl hyk)
                        have HI := Lib.hid hi
                        clear hi hyk
                        go_wp2_with fail
                        go_round
                        case rel => exact ⟨m + 1, by omega, by go_num, by rw [HI.out]⟩
                        case measure => simp [RowKit.intOf]; omega
                    · obtain rfl : m = len' := by omega
                      have hi : ins (ks.take m) m k3 q n (sg k3) = sg (k3 + 1) := by
                        rw [HS1.out, HQK.out]
                        unfold ins
                        rw [List.take_take, Nat.min_self]
                      rw [hi]
                      have HI := Lib.hid hi
                      clear hi
                      go_wp2_with fail
                      go_round
                      case rel => exact ⟨k3 + 1, by omega, by go_num, rfl⟩
                      case measure => simp [RowKit.intOf]; omega
                · obtain rfl : k3 = k := by omega
                  rw [HBV.out]
                  go_wp2_with fail
                  refine (tb _).mono ?_
                  rintro e w' ⟨rfl, rfl⟩
                  go_wp2_with fail
                  go_roundw
                  case rel =>
                    refine ⟨n + 1, by omega, by go_num, ?_⟩
                    exact Lib.hid ⟨_, _, HD5.out, HE1.out, HE2.out, HFF.out, HB.out.alloc HB.out.size _⟩
                  case measure => simp [RowKit.intOf]; omega
          · obtain rfl : n = c := by omega
            clear e1 e2
            go_wp2_with fail
            refine hpg.mono ?_
            rintro e w' ⟨rfl, rfl⟩
            go_wp2_with fail
            go_ret
            exact ⟨rfl, hb⟩
  · by_cases hl1 : 20 < len
    · have q1 : (20 : Int) < len := by omega
      clear hlim
      go_wp2_with fail
      go_ret
      exact ⟨rfl, hb1⟩
    · have q1 : ¬ (20 : Int) < len := by omega
      have q2 : (100 : Int) < len' := by omega
      clear hlim
      go_wp2_with fail
      go_ret
      exact ⟨rfl, hb1⟩
end Go.Proofs.Ytmkejkmgpigmhaa
