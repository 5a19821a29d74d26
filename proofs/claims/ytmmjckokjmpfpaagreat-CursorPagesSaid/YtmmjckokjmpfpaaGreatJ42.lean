/-
  Texts that the main proof rests on, put together: LaFrom, LaWays, CuHas, CuDesc, CuGet, CuPages. No statement is proved here.
-/
import Derived.Test.YtmmjckokjmpfpaaGreatJ38
import Derived.Test.YtmmjckokjmpfpaaGreatJ41
import Derived.Test.YtmmjckokjmpfpaaGreatJ35
import Derived.Test.YtmmjckokjmpfpaaGreatJ10
import Derived.Lib.Hide
import Derived.Deep.QuietTactic
import Derived.BigQuiet
import Derived.WalkMore
import Derived.Test.YtmmjckokjmpfpaaGreatJ31
import Derived.Test.YtmmjckokjmpfpaaGreatJ39
import Derived.Test.YtmmjckokjmpfpaaGreatJ23
import Derived.Test.YtmmjckokjmpfpaaGreatJ40
set_option linter.unusedVariables false
set_option linter.unusedSimpArgs false
namespace Go.Proofs.YtmmjckokjmpfpaaGreat
open Go.RowKit
open Go.Lib hiding intOf

def lessN (key : ByteArray) (l : List Pr) : Nat := l.countP fun p => Op.bytesLess p.ky.toList key.toList
theorem fromP_drop (key : ByteArray) : ∀ {l : List Pr}, (l.map (·.ky)).Pairwise lessB → fromP key l = l.drop (lessN key l)
 | [], _ => rfl
 | x :: t, h => by
  rw [List.map_cons, List.pairwise_cons] at h
  rcases hx : Op.bytesLess x.ky.toList key.toList with _ | _
  ·have hall : ∀ y ∈ t, Op.bytesLess y.ky.toList key.toList = false := fun y hy => by
    rcases hb : Op.bytesLess y.ky.toList key.toList with _ | _
    ·rfl
    ·have := lessB_trans (h.1 y.ky (List.mem_map_of_mem hy)) (show lessB y.ky key from hb)
     unfold lessB at this
     rw [hx] at this
     cases this
   have h0 : lessN key (x :: t) = 0 := by
    unfold lessN
    rw [List.countP_eq_zero]
    intro y hy
    rcases List.mem_cons.1 hy with rfl | hy
    ·simp [hx]
    ·simp [hall y hy]
   rw [h0, List.drop_zero]
   unfold fromP
   rw [List.filter_eq_self]
   intro y hy
   rcases List.mem_cons.1 hy with rfl | hy
   ·simp [hx]
   ·simp [hall y hy]
  ·have h1 : lessN key (x :: t) = lessN key t + 1 := by unfold lessN; simp [List.countP_cons, hx]
   have h2 : fromP key (x :: t) = fromP key t := by unfold fromP; simp [List.filter_cons, hx]
   rw [h1, h2, List.drop_succ_cons]
   exact fromP_drop key h.2
theorem sumP_mem : ∀ {l : List Pr} {x : Pr}, x ∈ l → x.ky.size + x.vl.size ≤ sumP l
 | c :: l, x, h => by
  rcases List.mem_cons.1 h with rfl | h
  ·simp only [sumP]; omega
  ·have := sumP_mem h; simp only [sumP]; omega
theorem lightP_parts {l : List Pr} (h : lightP l = true) : l.length ≤ 60 ∧ ∀ p ∈ l, p.ky.size ≤ 2500 ∧ p.vl.size ≤ 2500 := by
 simp only [lightP, Bool.and_eq_true, decide_eq_true_eq] at h
 exact ⟨h.1, fun p hp => by have := sumP_mem hp; omega⟩
structure FewP (l : List Pr) : Prop where
 few : l.length ≤ 60
 small : ∀ p ∈ l, p.ky.size ≤ 2500 ∧ p.vl.size ≤ 2500
 asc : (l.map (·.ky)).Pairwise lessB
theorem FewP.of_sort {l : List Pr} (h : l.length ≤ 60) (hs : ∀ p ∈ l, p.ky.size ≤ 2500 ∧ p.vl.size ≤ 2500) : FewP (sortP l) :=
 ⟨Nat.le_trans (sortP_len l) h, fun p hp => hs p (sortP_mem hp), sortP_asc l⟩
theorem FewP.lay {l : List Pr} (h : FewP l) : LayOk l := layOk_light h.few h.small h.asc
def imY (l : List Pr) : ByteArray := layStr 128 ⟨#[]⟩ (topY l).1
structure Told (l : List Pr) (im : ByteArray) (r : Nat) : Prop where
 err : layErr 128 ⟨#[]⟩ (topY l).1 = 0
 size : im.size ≤ 400000
 root : r < 4294967296
 tree : (treeV 128 im r).1 = l
 te : treeE 128 im r = 0
 get : ∀ p ∈ l, getV 128 im r p.ky = (p.vl, 0)
 no : ∀ key, (∀ p ∈ l, p.ky ≠ key) → getV 128 im r key = (⟨#[]⟩, 5)
structure Stands (l : List Pr) (im : ByteArray) (r d : Nat) (ns : List Nat) : Prop where
 size : im.size = (2 + ns.length) * 128
 d1 : 1 ≤ d
 d7 : d ≤ 7
 tree : TreeR (readAt 128 im) d r l ns
 perm : ns.Perm (List.range' 2 ns.length)
 len : ns.length ≤ 2600
 asc : (l.map (·.ky)).Pairwise lessB
theorem Stands.nodup {l : List Pr} {im : ByteArray} {r d : Nat} {ns : List Nat} (h : Stands l im r d ns) : ns.Nodup := h.perm.nodup_iff.2 List.nodup_range'
theorem Stands.mem {l : List Pr} {im : ByteArray} {r d : Nat} {ns : List Nat} (h : Stands l im r d ns) (n : Nat) : n ∈ ns ↔ 2 ≤ n ∧ n < 2 + ns.length := by rw [h.perm.mem_iff, List.mem_range'_1]
theorem Stands.head {l : List Pr} {im : ByteArray} {r d : Nat} {ns : List Nat} (h : Stands l im r d ns) : ∃ ms, ns = r :: ms := by
 have := h.tree
 have hd := h.d1
 cases d with
 | zero => omega
 | succ d => obtain ⟨p, ms, _, h2, _⟩ := this; exact ⟨ms, h2⟩
theorem Stands.root {l : List Pr} {im : ByteArray} {r d : Nat} {ns : List Nat} (h : Stands l im r d ns) : 2 ≤ r ∧ r < 2 + ns.length := by
 obtain ⟨ms, hm⟩ := h.head
 exact (h.mem r).1 (by rw [hm]; simp)
theorem Stands.trav {l : List Pr} {im : ByteArray} {r d : Nat} {ns : List Nat} (h : Stands l im r d ns) : treeV 128 im r = (l, some ns) := by
 have h7 := h.d7
 have h2 := h.root
 unfold treeV
 rw [show goodSize 128 = true from rfl, if_pos rfl, if_neg (by omega)]
 have := h.tree.trav (f := 16) (L := []) (by omega) (by simpa using h.nodup)
 simpa using this
theorem Stands.te {l : List Pr} {im : ByteArray} {r d : Nat} {ns : List Nat} (h : Stands l im r d ns) : treeE 128 im r = 0 := by
 unfold treeE
 rw [h.trav]
 rfl
theorem Stands.get {l : List Pr} {im : ByteArray} {r d : Nat} {ns : List Nat} (h : Stands l im r d ns) (key : ByteArray) :
  (∀ p ∈ l, p.ky = key → getV 128 im r key = (p.vl, 0)) ∧ ((∀ p ∈ l, p.ky ≠ key) → getV 128 im r key = (⟨#[]⟩, 5)) :=
 h.tree.get (by have := h.d7; omega) (by have := h.root; omega) h.asc h.nodup key
theorem stands {l : List Pr} (h : FewP l) (h0 : l ≠ []) (hok : okY l = true) : layErr 128 ⟨#[]⟩ (topY l).1 = 0 ∧ ∃ d ns, Stands l (imY l) (rootY l) d ns := by
 obtain ⟨im, d, ns, e1, e2, e3, e4, e5, e6, e7, e8⟩ := laid_tree h0 h.few h.small h.asc hok
 have hl : ns.length = (topY l).1.length := by rw [e7.length_eq, List.length_range']
 have hi : imY l = im := e1
 exact ⟨e2, d, ns, by rw [hi, e3, hl], e4, e5, by rw [hi]; exact e6, by rw [hl]; exact e7, by rw [hl]; exact e8, h.asc⟩
theorem told {l : List Pr} (h : FewP l) (hok : okY l = true) : Told l (imY l) (rootY l) := by
 by_cases h0 : l = []
 ·subst h0
  have hr : rootY [] = 0 := rfl
  have hi : imY [] = ⟨#[]⟩ := rfl
  rw [hr, hi]
  exact ⟨rfl, by decide, by decide, rfl, rfl, by simp, fun key _ => rfl⟩
 ·obtain ⟨e, d, ns, hs⟩ := stands h h0 hok
  have h1 := hs.size
  have h2 := hs.len
  have h3 := hs.root
  exact ⟨e, by omega, by omega, by rw [hs.trav], hs.te, fun p hp => (hs.get p.ky).1 p hp rfl, fun key => (hs.get key).2⟩
end Go.Proofs.YtmmjckokjmpfpaaGreat

namespace Go.Proofs.YtmmjckokjmpfpaaGreat
open Go.RowKit
open Go.Lib hiding intOf

def Par (ns x y : List Nat) : Prop := x.length = y.length ∧ ∀ i a b, x[i]? = some a → y[i]? = some b → ∃ j k : Nat, ns[j]? = some a ∧ ns[k]? = some b ∧ j ≤ k ∧ ∀ i', i = i' + 1 → x[i']? ≠ y[i']? → j < k
theorem Stands.way {l : List Pr} {im : ByteArray} {r d : Nat} {ns : List Nat} (h : Stands l im r d ns) (key : ByteArray) :
  pathE 128 im r key = 0 ∧ (pathL 128 im r key).length = d ∧ (pathL 128 im r key).head? = some r ∧ (∀ x ∈ pathL 128 im r key, x ∈ ns) ∧ ∃ z q, (pathL 128 im r key).getLast? = some z ∧ nodeN 128 im z = .lf q := by
 have h7 := h.d7
 have hr := h.root
 obtain ⟨way, l1, q, ms, g1, g2, g3, g4, ⟨z, g5, g6⟩, _⟩ := h.tree.desc (key := key) (f := 16) (P := []) (by omega) h.asc (by simpa using h.nodup)
 have hp : pathV 128 im r key = some (way, l1) := by
  unfold pathV
  rw [show goodSize 128 = true from rfl, if_pos rfl, if_neg (by omega), g1]
  rfl
 have q1 : pathL 128 im r key = way := by unfold pathL; rw [hp]; rfl
 rw [q1]
 exact ⟨by unfold pathE; rw [hp]; rfl, g2, g3, g4, z, l1, g5, g6⟩
end Go.Proofs.YtmmjckokjmpfpaaGreat

namespace Go.Proofs.YtmmjckokjmpfpaaGreat
open Go.RowKit
open Go.Lib hiding intOf

theorem uread {w : World} {B : Nat} {A : Option Addr} {n k : Nat} {l : List Nat} (hr : Reads w B 1 A n (ucells l)) (hk : k < n) : ∃ ad x, A = some ad ∧ ad.block < B ∧ l[k]? = some x ∧ w.cell? (ad.add k) = some (.int .u32 (x : Int)) := by
 obtain ⟨ad, u, hA, hb, hu, hc⟩ := hr.at_ hk
 unfold ucells at hu
 rw [List.getElem?_map] at hu
 rcases hp : l[k]? with _ | x
 ·rw [hp] at hu; cases hu
 ·rw [hp] at hu
  injection hu with hu
  subst hu
  exact ⟨ad, x, hA, hb, rfl, hc⟩
def TellsU (l : List Nat) (x : Nat) (r : Int) : Prop := decide (0 ≤ r) = decide (x ∈ l)
theorem uindex_any {w : World} {B : Nat} {A : Option Addr} {n : Nat} {l : List Nat} (c : Nat) (x : Nat) (hr : Reads w B 1 A n (ucells l)) (hn : n ≤ 1000000) :
  Calls Tryz.prog 97 #[.slice A n c, .int .u32 x] w fun e w' => (∃ r : Int, e = .returned (.int .i64 r) ∧ TellsU l x r) ∧ w = w' := by
 have hl : l.length = n := by have := hr.1; simpa [ucells] using this
 have HR := Lib.hid hr
 have HL := Lib.hid hl
 clear hr hl
 go_enter Tryz.func97, Tryz.ntmps97
 go_wp2
 go_loop [8] (fun i => ∃ k : Nat, k ≤ n ∧ i = .int .i64 k ∧ Hid (x ∉ l.take k)) (fun i => n - (intOf i).toNat)
 case atStart => exact ⟨0, Nat.zero_le _, rfl, Lib.hid (by simp)⟩
 case round =>
  obtain ⟨k, hk, rfl, HZ⟩ := hrel
  by_cases hlt : k < n
  ·obtain ⟨ad, z, rfl, hb, hz, hc⟩ := uread HR.out hlt
   have HK := Lib.hid hz
   clear hz hb
   by_cases he : x = z
   ·subst he
    have HT := Lib.hid (show TellsU l x k by unfold TellsU; rw [decide_eq_true (List.mem_of_getElem? HK.out)]; simp)
    go_wp2
    go_ret
    exact ⟨⟨k, rfl, HT.out⟩, rfl⟩
   ·have he1 : ((x : Int) == (z : Int)) = false := by simp; omega
    have he2 : (x == z) = false := by simpa using he
    have he3 : ((z : Int) == (x : Int)) = false := by simp; omega
    have he4 : (z == x) = false := by simpa using fun h => he h.symm
    have HN := Lib.hid (show x ∉ l.take (k + 1) by
     have h0 := HZ.out
     obtain ⟨h1, h2⟩ := List.getElem?_eq_some_iff.1 HK.out
     rw [List.take_succ_eq_append_getElem h1, h2]
     simp only [List.mem_append, List.mem_singleton, not_or]
     exact ⟨h0, he⟩)
    clear he
    go_wp2
    go_round
    case rel => exact ⟨k + 1, by omega, by go_num, HN⟩
    case measure => simp [intOf]; omega
  ·have HT := Lib.hid (show TellsU l x (-1) by
    have h0 := HZ.out
    rw [List.take_of_length_le (by have := HL.out; omega)] at h0
    unfold TellsU
    rw [decide_eq_false h0]
    decide)
   go_wp2
   go_ret
   exact ⟨⟨-1, rfl, HT.out⟩, rfl⟩
theorem ucontains_any {w : World} {B : Nat} {A : Option Addr} {n : Nat} {l : List Nat} (c : Nat) (x : Nat) (hr : Reads w B 1 A n (ucells l)) (hn : n ≤ 1000000) :
  Calls Tryz.prog 72 #[.slice A n c, .int .u32 x] w fun e w' => e = .returned (.bool (decide (x ∈ l))) ∧ w = w' := by
 go_enter Tryz.func72, Tryz.ntmps72
 go_wp2_with (go_at_call 97; refine (uindex_any _ x hr hn).mono ?_; rintro e w' ⟨⟨r, rfl, hres⟩, rfl⟩)
 go_ret
 refine ⟨?_, rfl⟩
 rw [← hres]
 rfl
end Go.Proofs.YtmmjckokjmpfpaaGreat

namespace Go.Proofs.YtmmjckokjmpfpaaGreat
open Go.RowKit
open Go.Lib hiding intOf
attribute [local go_sem ↓] Go.wp_at_zero Go.wp_at_succ

def lenSl : Value → Nat
 | .slice _ n _ => n
 | _ => 0
def DescPost (sz : Int) (img : ByteArray) (root : Nat) (key : ByteArray) (w : World) (e : Ending) (w' : World) : Prop :=
 ∃ A n c A2 n2 c2, e = .returned (.tuple #[.slice A n c, .slice A2 n2 c2, .int .i64 (pathE sz img root key)]) ∧ Reads w' w'.heap.size 1 A n (ucells (pathL sz img root key)) ∧ Reads w' w'.heap.size 5 A2 n2 (itc (pathI sz img root key)) ∧ n ≤ 16 ∧ n2 ≤ 100000 ∧ n ≤ c ∧ n2 ≤ c2 ∧ Below w.heap.size w w'
theorem DescPost.no {sz : Int} {img : ByteArray} {root : Nat} {key : ByteArray} {w w' : World} (h : pathV sz img root key = none) (hb : Below w.heap.size w w') : DescPost sz img root key w (.returned (.tuple #[.slice none 0 0, .slice none 0 0, .int .i64 (if goodSize sz then 4 else 2)])) w' :=
 ⟨none, 0, 0, none, 0, 0, by rw [pathE, h]; rfl, by rw [pathL, h]; exact Reads.none_, by rw [pathI, h]; exact Reads.none_, by omega, by omega, by omega, by omega, hb⟩
theorem DescPost.yes {sz : Int} {img : ByteArray} {root : Nat} {key : ByteArray} {w w' : World} {P : List Nat} {l : List It} {A : Option Addr} {n c : Nat} {A2 : Option Addr} {n2 c2 : Nat} (h : pathV sz img root key = some (P, l)) (h1 : Reads w' w'.heap.size 1 A n (ucells P)) (h2 : Reads w' w'.heap.size 5 A2 n2 (itc l)) (h3 : n ≤ 16) (h4 : n2 ≤ 100000) (h5 : n ≤ c) (h6 : n2 ≤ c2) (hb : Below w.heap.size w w') : DescPost sz img root key w (.returned (.tuple #[.slice A n c, .slice A2 n2 c2, .int .i64 0])) w' := by
 have hg : goodSize sz = true := by
  rcases hg : goodSize sz with _ | _
  ·unfold pathV at h; rw [hg] at h; cases h
  ·rfl
 exact ⟨A, n, c, A2, n2, c2, by rw [pathE, h, hg]; rfl, by rw [pathL, h]; exact h1, by rw [pathI, h]; exact h2, h3, h4, h5, h6, hb⟩
set_option maxRecDepth 100000 in
set_option maxHeartbeats 12800000 in
theorem descend_any (sz : Int) (img : ByteArray) (root : Nat) (key : ByteArray) (w : World) (hi : img.size ≤ 400000) (hr : root < 4294967296) :
  Calls Tryz.prog 39 #[.int .i64 sz, .string img, .int .u32 root, .string key] w (DescPost sz img root key w) := by
 rcases hg : goodSize sz with _ | _
 ·have HG := Lib.hid (fun w => dgood_is sz false w hg)
  have HP := Lib.hid (DescPost.no (sz := sz) (img := img) (root := root) (key := key) (w := w) (w' := w) (by unfold pathV; rw [hg]; rfl) (Below.refl _ _))
  rw [hg] at HP
  clear hg hi hr
  go_enter Tryz.func39, Tryz.ntmps39
  go_wp2_with fail
  go_step3
  go_wp2_with fail
  refine (HG.out _).mono ?_
  rintro e w' ⟨rfl, rfl⟩
  go_wp2_with fail
  (try rw [Exit.noGoto_ret])
  go_ret3
  exact HP.out
 have HG := Lib.hid (fun w => dgood_is sz true w hg)
 by_cases h0 : root = 0
 ·subst h0
  have HP := Lib.hid (DescPost.yes (sz := sz) (img := img) (root := 0) (key := key) (w := w) (w' := w) (P := []) (l := []) (A := none) (n := 0) (c := 0) (A2 := none) (n2 := 0) (c2 := 0) (by unfold pathV; rw [hg]; rfl) Reads.none_ Reads.none_ (by omega) (by omega) (by omega) (by omega) (Below.refl _ _))
  clear hg hi hr
  go_enter Tryz.func39, Tryz.ntmps39
  go_wp2_with fail
  go_step3
  go_wp2_with fail
  refine (HG.out _).mono ?_
  rintro e w' ⟨rfl, rfl⟩
  go_wp2_with fail
  (try rw [Exit.noGoto_ret])
  go_ret3
  exact HP.out
 have hP : pathV sz img root key = descT sz img key 16 root [] := by unfold pathV; rw [hg]; simp [h0]
 have HP := Lib.hid hP
 have HNo := Lib.hid (show ∀ w', Below w.heap.size w w' → descT sz img key 16 root [] = none → DescPost sz img root key w (.returned (.tuple #[.slice none 0 0, .slice none 0 0, .int .i64 4])) w' from fun w' hb hn => by
  have := DescPost.no (by rw [hP]; exact hn) hb
  rwa [hg] at this)
 have h1 : ((root : Int) == 0) = false := by simp; omega
 have h2 : (root == 0) = false := by simp; omega
 obtain ⟨i0, hi0, hz0, hz1, hz2⟩ := info_parts infoU32
 obtain ⟨hzn, hin⟩ := zero_of_info infoNodez
 have HIN := Lib.hid hin
 have HSz := Lib.hid hi
 have HR := Lib.hid hr
 clear hP hg hi hr h0 hin
 go_enter Tryz.func39, Tryz.ntmps39
 go_wp2_with fail
 go_step3
 go_wp2_with fail
 refine (HG.out _).mono ?_
 rintro e w' ⟨rfl, hw'⟩
 subst hw'
 go_wp2_with fail
 go_step3
 go_wp2_with fail
 go_loopw [8, 11] (fun v8 v11 wr => ∃ (d : Nat) (P : List Nat) (A : Option Addr) (c nn : Nat), v8 = .slice A P.length c ∧ v11 = .int .u32 nn ∧ P.length + d = 16 ∧ nn < 4294967296 ∧ Hid (wr.ownsRow w'.heap.size 23 1 (.slice A P.length c) P.length (ucells P)) ∧ Hid (Below w'.heap.size w' wr) ∧ Hid (descT sz img key 16 root [] = descT sz img key d nn P)) (fun v8 _ _ => 16 - lenSl v8)
 case atStart => exact ⟨16, [], none, 0, root, rfl, rfl, rfl, HR.out, Lib.hid (World.ownsRow_nil _ _ _ _), Lib.hid (Below.refl _ _), Lib.hid rfl⟩
 case round =>
  obtain ⟨d, P, A, c, nn, rfl, rfl, hlen, hnn, HO, HB, HD⟩ := hrel
  have HRd := Lib.hid (Reads.of_own HO.out)
  rcases d with _ | d
  ·have hE := Lib.hid (HNo.out wr HB.out (by rw [HD.out]; rfl))
   have hg1 : decide (P.length < 16) = false := by simp; omega
   have hg2 : decide ((P.length : Int) < 16) = false := by simp; omega
   go_wp2_with fail
   (try rw [Exit.noGoto_ret])
   go_ret3
   exact hE.out
  have hl16 : P.length < 16 := by omega
  have hg1 : decide (P.length < 16) = true := by simp; omega
  have hg2 : decide ((P.length : Int) < 16) = true := by simp; omega
  have HCt := Lib.hid (ucontains_any (w := wr) (n := P.length) c nn HRd.out (by omega))
  by_cases hm : nn ∈ P
  ·have hE := Lib.hid (HNo.out wr HB.out (by rw [HD.out]; simp [descT, hm]))
   have hct : decide (nn ∈ P) = true := decide_eq_true hm
   rw [hct] at HCt
   clear hm hct
   go_wp2_with fail
   refine HCt.out.mono ?_
   rintro e w2 ⟨rfl, hw2⟩
   subst hw2
   go_wp2_with fail
   (try rw [Exit.noGoto_ret])
   go_ret3
   exact hE.out
  have hct : decide (nn ∈ P) = false := decide_eq_false hm
  rw [hct] at HCt
  have HDn := Lib.hid (show descT sz img key 16 root [] = match nodeN sz img nn with
    | .none => none
    | .lf l => some (P ++ [nn], l)
    | .br l => descT sz img key d ((l[pickF l key]?.map (·.rt)).getD 0) (P ++ [nn]) by rw [HD.out]; simp only [descT, if_neg hm]; rfl)
  clear hct hm HD
  go_wp2_with fail
  refine HCt.out.mono ?_
  rintro e w2 ⟨rfl, hw2⟩
  subst hw2
  clear HCt
  have HA := Lib.hid (HO.out.alloc (.cells #[.int .u32 nn] 23))
  have HBa := Lib.hid (HB.out.alloc HB.out.size (.cells #[.int .u32 nn] 23))
  have hsz := HB.out.size
  go_upto_region 8 with (at_builtin; refine wpList_append_any _ rfl (.tmp 28) (.tmp 30) _ rfl w'.heap.size 23 i0 _ 1 4 Tryz.underlying31 hi0 hz0 hz1 hz2 rfl (by omega) _ P.length _ rfl HA.out (wr.heap.size + 1) (some ⟨wr.heap.size, 0, none⟩) 1 1 (ucells [nn]) rfl (reads_own (n := 1) (Blk.new _ _ _) rfl) (ucells_one _) (by unfold maxLen; omega) (by omega) (by simp; omega) ?_; intro v6 w6 hown6 hg6 hat6)
  clear hat6 hsz
  rw [← ucells_append] at hown6
  obtain ⟨A6, c6, rfl, hc6, _, _⟩ := own_form hown6
  have HO6 := Lib.hid hown6
  have HC6 := Lib.hid hc6
  have HB6 := Lib.hid (HBa.out.grown hg6 HBa.out.size (own_base HA.out))
  clear hown6 hg6 hc6 HA HBa HO HB HRd
  have HNd := Lib.hid (nodeAt_any sz img nn w6 (by have := HSz.out; omega) hnn)
  go_wp2_with fail
  refine HNd.out.mono ?_
  rintro e w7 hp
  obtain ⟨kd, An, n1, c1, A2, n2, c2, rfl, hb7, hni⟩ := hp.letters
  clear hp HNd
  have HO7 := Lib.hid (own_below HO6.out hb7)
  have HB7 := Lib.hid (HB6.out.trans (hb7.mono HB6.out.size))
  obtain ⟨w8, hw8⟩ : ∃ y, y = w7.alloc (.cells #[.int .i64 kd, .slice An n1 c1, .slice A2 n2 c2] 136) := ⟨_, rfl⟩
  have PN := Lib.hid (show Blk w8 w7.heap.size 136 #[.int .i64 kd, .slice An n1 c1, .slice A2 n2 c2] by rw [hw8]; exact Blk.new _ _ _)
  have HO8 := Lib.hid (show w8.ownsRow w'.heap.size 23 1 (.slice A6 (P.length + 1) c6) (P.length + 1) (ucells (P ++ [nn])) by rw [hw8]; exact HO7.out.alloc _)
  have HB8 := Lib.hid (show Below w'.heap.size w' w8 by rw [hw8]; exact HB7.out.alloc HB7.out.size _)
  have HNi := Lib.hid (show NodeIs (nodeN sz img nn) w6.heap.size w8 kd An n1 c1 A2 n2 c2 by rw [hw8]; exact hni.keep (by simp) (Nat.le_refl _) fun p _ hp => World.cell?_alloc_lt _ _ _ hp)
  clear hni hb7 HO6 HB6 HO7 HB7
  go_upto_region 9 with fail
  rw [← hw8]
  clear hw8
  obtain ⟨gP, hgP⟩ : ∃ g, g = w7.heap.size := ⟨_, rfl⟩
  rw [← hgP] at PN ⊢
  clear hgP
  obtain ⟨o, ho⟩ : ∃ o, o = nodeN sz img nn := ⟨_, rfl⟩
  rw [← ho] at HNi HDn
  have HOo := Lib.hid ho
  clear ho
  have p0 := PN.out.cell 0
  have p1 := PN.out.cell 1
  have p2 := PN.out.cell 2
  simp at p0 p1 p2
  cases o with
  | none =>
   have hkd : kd = 0 := HNi.out
   subst hkd
   have hE := Lib.hid (HNo.out w8 HB8.out (by rw [HDn.out]))
   go_wp2_with fail
   (try rw [Exit.noGoto_ret])
   go_ret3
   exact hE.out
  | lf l =>
   obtain ⟨hkd, hn0, hrn, hnc, hcm⟩ := HNi.out
   subst hkd
   have hnl : l.length = n2 := it_len hrn.1
   have hE := Lib.hid (fun q => DescPost.yes (w' := w8.drewN q) (by rw [HP.out, HDn.out]) ((Reads.of_own HO8.out).drewN q) (hrn.1.drewN q) (by omega) (by rw [← hnl]; exact item_size HOo.out.symm) HC6.out hnc (below_drewN HB8.out q))
   clear hrn hnc hcm hnl hn0
   go_upto_region 13 with fail
   go_quiet (fail)
   go_wp2_with fail
   (try rw [Exit.noGoto_ret])
   go_ret3
   exact hE.out nq
  | br l =>
   obtain ⟨hkd, hrn, hnc, hcm, hn2⟩ := HNi.out
   subst hkd
   have hnl : l.length = n1 := fk_len hrn.1
   have hl0 : 0 < l.length := by obtain ⟨p, _, hf⟩ := node_some HOo.out.symm; exact (readF_kd hf).2.2.1
   have hpl := pickF_lt hl0 key
   have hn9 : n1 ≤ 100000 := by rw [← hnl]; exact fork_size HOo.out.symm
   obtain ⟨ad, x, rfl, hab, hab2, hx, hfk⟩ := fk_at (i := pickF l key) hrn.1 (by omega)
   have hrt := fork_num HOo.out.symm hx
   have HDb := Lib.hid (show descT sz img key 16 root [] = descT sz img key d x.rt (P ++ [nn]) by rw [HDn.out]; simp only [hx]; rfl)
   have HPk := Lib.hid (fun (W : World) (hb : Below w8.heap.size w8 W) => bpick_any (some ad) n1 c1 l key W ((hrn.1.below hb).more hb.size) (by omega))
   have HF1 := Lib.hid hfk.2
   have HPl := Lib.hid PN.out.lt
   have HAb := Lib.hid hab2
   obtain ⟨p, hp⟩ : ∃ p, p = pickF l key := ⟨_, rfl⟩
   rw [← hp] at HPk HF1 HAb hpl
   have hpn : p < n1 := by omega
   clear hrn hnc hcm hnl hl0 hfk hab hab2 hx hp hpl
   go_upto_region 11 with fail
   refine wp_region_held_drew (S := (fun W => W.cell? ⟨gP, 1, none⟩ = some (.slice (some ad) n1 c1) ∧ W.cell? ⟨(ad.add (p * 2)).block, (ad.add (p * 2)).off + 1, none⟩ = some (.int .u32 (x.rt : Int)))) (by kernel_rfl) (show _ ∧ _ from ⟨PN.out.drew.cell 1, HF1.out⟩) (fun _ => ?_)
   refine tkA (i := 0) ?_
   try simp only [tkP]
   refine tkA (i := 1) ?_
   try simp only [tkP]
   refine tkA (i := 2) ?_
   try simp only [tkP]
   refine tkA (i := 3) ?_
   try simp only [tkP]
   refine tkA (i := 4) ?_
   try simp only [tkP]
   refine wpAnyH_ready (rs := [5]) (by kernel_rfl) (by simp) ?_
   refine tkC (fun K hK => ?_)
   go_simp
   refine (HPk.out _ (Below.refl _ w8).drew).mono ?_
   rintro e w9 ⟨rfl, hb9⟩
   have HB9 := Lib.hid hb9
   refine hK.out _ _ (show _ ∧ _ from ⟨(PN.out.drew.below hb9 PN.out.lt).cell 1, (hb9.cell (p := ⟨(ad.add (p * 2)).block, (ad.add (p * 2)).off + 1, none⟩) HAb.out).trans HF1.out⟩) (fun hHeld => ?_)
   clear hK K hb9
   try simp only [tkP]
   refine tkA (i := 6) ?_
   try simp only [tkP]
   refine tkA (i := 7) ?_
   try simp only [tkP]
   refine tkA (i := 8) ?_
   try simp only [tkP]
   refine tkA (i := 9) ?_
   try simp only [tkP]
   refine wpAnyH_done (by kernel_rfl) ?_ _
   go_wp2_with fail
   go_roundw
   case rel => exact ⟨d, P ++ [nn], A6, c6, x.rt, by rw [List.length_append]; rfl, rfl, by rw [List.length_append]; simp; omega, hrt, Lib.hid (by rw [List.length_append]; exact own_below HO8.out ((Below.refl _ w8).drew.trans HB9.out)), Lib.hid (HB8.out.trans (((Below.refl _ w8).drew.trans HB9.out).mono HB8.out.size)), HDb⟩
   case measure => simp [lenSl]; omega
end Go.Proofs.YtmmjckokjmpfpaaGreat

namespace Go.Proofs.YtmmjckokjmpfpaaGreat
open Go.RowKit
open Go.Lib hiding intOf
attribute [local go_sem ↓] Go.wp_at_zero Go.wp_at_succ

theorem cpath_any (sz : Int) (img : ByteArray) (root : Nat) (key : ByteArray) (w : World) (hi : img.size ≤ 400000) (hr : root < 4294967296) :
  Calls Tryz.prog 14 #[.int .i64 sz, .string img, .int .u32 root, .string key] w fun e w' => ∃ A n c, e = .returned (.tuple #[.slice A n c, .int .i64 (pathE sz img root key)]) ∧ Reads w' w'.heap.size 1 A n (ucells (pathL sz img root key)) ∧ n ≤ 16 ∧ n ≤ c ∧ Below w.heap.size w w' := by
 have HD := Lib.hid (descend_any sz img root key w hi hr)
 clear hi hr
 go_enter Tryz.func14, Tryz.ntmps14
 go_wp2_with fail
 refine HD.out.mono ?_
 rintro e w1 ⟨A, n, c, A2, n2, c2, rfl, hr1, hr2, hn, hn2, hc, hc2, hb⟩
 have HP := Lib.hid (show Reads w1 w1.heap.size 1 A n (ucells (pathL sz img root key)) ∧ n ≤ 16 ∧ n ≤ c ∧ Below w.heap.size w w1 from ⟨hr1, hn, hc, hb⟩)
 clear hr1 hr2 hn hn2 hc hc2 hb
 go_wp2_with fail
 go_ret2
 exact ⟨A, n, c, rfl, HP.out⟩
theorem cdepth_any (sz : Int) (img : ByteArray) (root : Nat) (w : World) (hi : img.size ≤ 400000) (hr : root < 4294967296) :
  Calls Tryz.prog 16 #[.int .i64 sz, .string img, .int .u32 root] w fun e w' => e = .returned (.tuple #[.int .i64 ((pathL sz img root ⟨#[]⟩).length : Int), .int .i64 (pathE sz img root ⟨#[]⟩)]) ∧ Below w.heap.size w w' := by
 have HD := Lib.hid (cpath_any sz img root ⟨#[]⟩ w hi hr)
 clear hi hr
 go_enter Tryz.func16, Tryz.ntmps16
 go_wp2_with fail
 refine HD.out.mono ?_
 rintro e w1 ⟨A, n, c, rfl, hr1, hn, hc, hb⟩
 have hl : (pathL sz img root ⟨#[]⟩).length = n := by have := hr1.1; simpa [ucells] using this
 have HP := Lib.hid (show Below w.heap.size w w1 from hb)
 have HL := Lib.hid hl
 clear hr1 hc hb hl
 go_wp2_with fail
 go_ret2
 rw [HL.out]
 exact ⟨rfl, HP.out⟩
end Go.Proofs.YtmmjckokjmpfpaaGreat

namespace Go.Proofs.YtmmjckokjmpfpaaGreat
open Go.RowKit Go.Shelf
attribute [local go_sem] Oper.semAt_some
attribute [local go_sem ↓] Go.wp_at_zero Go.wp_at_succ

def lastE (l : List (Pr × Int)) : Int := (l.getLast?.map (·.2)).getD 0
theorem lastE_snoc (l : List (Pr × Int)) (x : Pr × Int) : lastE (l ++ [x]) = x.2 := by simp [lastE]
theorem lastE_tree {size : Int} {s : ByteArray} {root : Nat} : lastE (treeS size s root) = treeE size s root := by
 unfold treeS stepsT
 by_cases h : treeE size s root = 0
 ·rw [if_pos h, h, List.append_nil]
  generalize (treeV size s root).1 = l
  unfold lastE
  rw [List.getLast?_map]
  cases l.getLast? <;> rfl
 ·rw [if_neg h, lastE_snoc]
def PagesJ (b : Nat) (pre : List (Pr × Int)) (U : Nat → Prop) (W : World) : Prop := (∀ k, U k ↔ k = b) ∧ Boxed W b 28 (.int .i64 (lastE pre))
theorem pages1_any (b : Nat) (x : Pr × Int) (pre : List (Pr × Int)) (w : World) (h : Boxed w b 28 (.int .i64 (lastE pre))) :
  Calls Tryz.prog 44 (encP x ++ #[.pointer (some ⟨b, 0, none⟩)]) w fun e w' => e = .returned (.bool true) ∧ Boxed w' b 28 (.int .i64 x.2) ∧ Kept (fun k => k = b) w w' := by
 obtain ⟨⟨ky, vl⟩, er⟩ := x
 have h' := h.alloc (.cells #[.string ky, .string vl] 55)
 have c := h'.cell
 have f := h'.frozen
 have HB := Lib.hid h'
 have HK := Lib.hid (show Kept (fun k => k = b) w ((w.alloc (.cells #[.string ky, .string vl] 55)).setCell ⟨b, 0, none⟩ (.int .i64 er)) from ((Kept.refl (fun k => k = b) w).alloc _).setCell (p := ⟨b, 0, none⟩) (.inl rfl) _)
 clear h h'
 simp only [encP, List.append_toArray, List.cons_append, List.nil_append]
 go_enter Tryz.func44, Tryz.ntmps44
 go_wp2_with fail
 go_ret
 exact ⟨rfl, HB.out.set _, HK.out⟩
set_option maxRecDepth 100000 in
theorem eg_pages1 : ∀ args w, (callFunc 44 args).run Tryz.prog w = .ok (.enter 44 args) w := fun _ _ => by first | rfl | kernel_rfl
set_option maxRecDepth 100000 in
theorem pages_hears (b : Nat) (XS : List (Pr × Int)) : Hears XS (PagesJ b) (fun _ _ _ => False) (.func (.func 44) #[] #[.pointer (some ⟨b, 0, none⟩)]) where
 sJ := fun pre U W W' h hk => ⟨h.1, (hk.block b h.2.lt ((h.1 b).2 rfl)).trans h.2⟩
 sJx := fun _ _ _ _ h _ => h
 lJ := fun pre U W h k hk => by
  obtain rfl := (h.1 k).1 hk
  exact h.2.lt
 lJx := fun _ _ _ h => h.elim
 tell := fun pre x U W h hx => .inr ⟨_, _, rfl, eg_pages1, (pages1_any b x pre W h.2).mono fun e w' ⟨h1, h2, h3⟩ => .inl ⟨h1, U, fun k hk => .inl hk, h3.mono (fun k e => (h.1 k).2 e), h.1, by rw [lastE_snoc]; exact h2⟩⟩
set_option maxRecDepth 100000 in
set_option maxHeartbeats 6400000 in
theorem cpages_any (sz : Int) (img : ByteArray) (root : Nat) (w : World) (hi : img.size ≤ 400000) (hr : root < 4294967296) :
  Calls Tryz.prog 15 #[.int .i64 sz, .string img, .int .u32 root] w fun e w' => ∃ A n c, e = .returned (.tuple #[.slice A n c, .int .i64 (treeE sz img root)]) ∧ Reads w' w'.heap.size 1 A n (ucells (((treeV sz img root).2).getD [])) ∧ Below w.heap.size w w' := by
 have hmf : ∀ (fn : Fn) (first cap : Array Value) (w : World), (Instr.makeFunc fn first cap).run Tryz.prog w = .ok (.func fn first cap) w := fun _ _ _ _ => rfl
 have HI := Lib.hid hi
 have HR := Lib.hid hr
 obtain ⟨E, hE⟩ : ∃ E, E = treeE sz img root := ⟨_, rfl⟩
 rw [← hE]
 have HEq := Lib.hid hE
 clear hi hr hE
 go_enter Tryz.func15, Tryz.ntmps15
 go_wp2_with fail
 refine (visitor_any sz img _).mono ?_
 rintro e w1 ⟨rfl, hb1, hv1, hs⟩
 have HSz := Lib.hid hs
 have HB1 := Lib.hid hb1
 clear hs hb1
 go_upto_region 3 with fail
 have hs1 := HSz.out
 have hb1 := HB1.out
 obtain ⟨w2, hw2⟩ : ∃ y, y = w1.alloc (.cells #[.int .i64 0] 28) := ⟨_, rfl⟩
 obtain ⟨b, hb⟩ : ∃ b, b = w1.heap.size := ⟨_, rfl⟩
 have hbx : Boxed w2 b 28 (.int .i64 0) := by rw [hw2, hb]; exact Boxed.new _ _ _
 have hv2 : Vis w2 (w.heap.size + 1) w.heap.size sz img [] (.slice none 0 0) := by rw [hw2]; exact hv1.below ((Below.refl _ _).alloc (Nat.le_refl _) _)
 have hb2 : Below w.heap.size w w2 := by rw [hw2]; exact hb1.alloc (by omega) _
 have HT := Lib.hid (tree_any sz img root (pages_hears b (treeS sz img root)) (w.heap.size + 1) w.heap.size HI.out HR.out _ (fun k => k = b) w2 hv2 (fun k hk hu => by rcases hk with h | h | h <;> (try simp [Value.ownBlock] at h) <;> omega) ⟨fun _ => Iff.rfl, hbx⟩)
 have HB2 := Lib.hid hb2
 have HS2 := Lib.hid (show w.heap.size + 2 ≤ b by omega)
 clear hb1 hv1 hv2 hb2 hbx
 rw [← hw2, ← hb]
 clear hw2 hb hs1 HSz HB1
 go_wp2_with fail
 refine HT.out.mono ?_
 rintro e w3 ⟨⟨v, rfl⟩, V', U', hf, hq⟩
 have hj : PagesJ b (treeS sz img root) U' w3 ∧ ∀ M, (treeV sz img root).2 = some M → Vis w3 (w.heap.size + 1) w.heap.size sz img M V' := hq.elim id (fun h => h.elim fun q h => h.2.elim)
 have HB3 := Lib.hid (show Below w.heap.size w w3 from HB2.out.trans (hf.kept.below (fun k hk => by have h2 := HS2.out; rcases hk with (h | h | h) | h <;> (try simp [Value.ownBlock] at h) <;> omega) HB2.out.size))
 have hbx := hj.1.2
 rw [lastE_tree] at hbx
 have c3 := hbx.cell
 have HVi := Lib.hid hj.2
 clear hf hq hj hbx HT HB2
 have hE := HEq.out
 rw [← hE] at c3
 by_cases h0 : E = 0
 ·have hM : ∃ M, (treeV sz img root).2 = some M := by
   unfold treeE at hE
   rcases hm : (treeV sz img root).2 with _ | M
   ·rw [hm] at hE; simp at hE; split at hE <;> omega
   ·exact ⟨M, rfl⟩
  obtain ⟨M, hM⟩ := hM
  have HV3 := Lib.hid (HVi.out M hM)
  obtain ⟨A, c, hV, _, _, _⟩ := own_form HV3.out.row
  subst hV
  have HRd := Lib.hid (Reads.of_own HV3.out.row)
  have HM := Lib.hid hM
  have c4 := HV3.out.blk.cell 3
  simp at c4
  subst h0
  clear hE hM HVi
  go_wp2_with fail
  go_ret2
  rw [HM.out]
  exact ⟨A, _, c, rfl, HRd.out, HB3.out⟩
 ·have hM : (treeV sz img root).2 = none := by
   unfold treeE at hE
   rcases hm : (treeV sz img root).2 with _ | M
   ·rfl
   ·rcases hg : goodSize sz with _ | _
    ·unfold treeV at hm; rw [hg] at hm; cases hm
    ·rw [hm, hg] at hE; simp at hE; exact absurd hE h0
  have HM := Lib.hid hM
  have h1 : (E != 0) = true := by simpa using h0
  clear hE hM HVi h0
  go_upto_region 5 with fail
  go_quiet (fail)
  go_wp2_with fail
  go_ret2
  rw [HM.out]
  exact ⟨none, 0, 0, rfl, Reads.none_, below_drewN HB3.out nq⟩
end Go.Proofs.YtmmjckokjmpfpaaGreat

