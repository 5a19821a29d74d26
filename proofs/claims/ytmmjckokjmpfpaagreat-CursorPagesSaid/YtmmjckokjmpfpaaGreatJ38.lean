/-
  Texts that the main proof rests on, put together: LaTree, LaPick, LaGet, IterU, CuYield. No statement is proved here.
-/
import Derived.Test.YtmmjckokjmpfpaaGreatJ37
import Derived.Test.YtmmjckokjmpfpaaGreatJ9
import Derived.RangeFuncNested
import Derived.RangeFuncBound
import Derived.Test.YtmmjckokjmpfpaaGreatJ15
import Derived.RangeFuncCalls
import Derived.RangeFuncLeaves
import Derived.RangeFuncBox
import Derived.Shelf.Abstract
import Derived.Shelf.RegionOpen
import Derived.WalkKit
import Derived.OwnWalkIn
import Derived.TacticsInMore
import Derived.LoopNIn
import Derived.LoopIn
import Derived.Lib.Hide
import Derived.Test.YtmmjckokjmpfpaaGreatJ18
import Derived.Test.YtmmjckokjmpfpaaGreatJ12
set_option linter.unusedVariables false
set_option linter.unusedSimpArgs false
namespace Go.Proofs.YtmmjckokjmpfpaaGreat
open Go.RowKit
open Go.Lib hiding intOf

theorem levels_pages : ∀ {f : Nat} {L : List Pg} {F : List Fk}, Num L → (∀ q ∈ L, mayPg 128 q.kd q.ct q.pg q.lk q.tx q.bd = true) → LevOk f L F → Num (levelsY 128 f L F).1 ∧ (∀ q ∈ (levelsY 128 f L F).1, mayPg 128 q.kd q.ct q.pg q.lk q.tx q.bd = true) ∧ (levelsY 128 f L F).1.length ≤ L.length + 2 * F.length
 | 0, L, F, hn, hm, hv => ⟨hn, hm, by show L.length ≤ _; omega⟩
 | f + 1, L, F, hn, hm, hv => by
  by_cases h1 : F.length ≤ 1
  ·rw [levelsY_one h1]
   exact ⟨hn, hm, by show L.length ≤ _; omega⟩
  ·rcases hv with hv | ⟨hv1, hv2, hv3, hv4, hv5, hv6⟩
   ·exact absurd hv.1 h1
   rw [levelsY_more hv1]
   have hfl : (cutG sizeF 104 F.length F).flatten = F := cutG_flat _ _ (Nat.le_refl _)
   have hkeys := brMay_keys hv2
   rw [hfl] at hkeys
   have hhalf := cutG_half (two_fit hkeys) F.length F (fun x hx => hx)
   obtain ⟨g1, g2, g3⟩ := levels_pages (hn.append (by rw [brPgs_nos, brPgs_len])) (fun q hq => by
    rcases List.mem_append.1 hq with h | h
    ·exact hm q h
    ·exact brPgs_may hv2 q h) hv6
   refine ⟨g1, g2, Nat.le_trans g3 ?_⟩
   rw [brFks_len, List.length_append, brPgs_len]
   omega
theorem num_nodup {L : List Pg} (h : Num L) : (nosP L).Nodup := by rw [h]; exact List.nodup_range'
theorem laid_tree {l : List Pr} (h0 : l ≠ []) (h60 : l.length ≤ 60) (hs : ∀ p ∈ l, p.ky.size ≤ 2500 ∧ p.vl.size ≤ 2500) (hasc : (l.map (·.ky)).Pairwise lessB) (hok : okY l = true) :
  ∃ im d ns, layStr 128 ⟨#[]⟩ (topY l).1 = im ∧ layErr 128 ⟨#[]⟩ (topY l).1 = 0 ∧ im.size = (2 + (topY l).1.length) * 128 ∧ 1 ≤ d ∧ d ≤ 7 ∧ TreeR (readAt 128 im) d (rootY l) l ns ∧ ns.Perm (List.range' 2 (topY l).1.length) ∧ (topY l).1.length ≤ 2600 := by
 have hlay := layOk_light h60 hs hasc
 have hlev := hlay.lev hok
 obtain ⟨C, e1, e2, e3, e4, e5, e6⟩ := itemsY_is (l := l) num_nil (fun p hp => by have := (hs p hp).2; omega) (by simp; omega)
 rw [List.nil_append] at e1 e2
 have hil : (itemsY 128 [] l).2.length = l.length := itemsY_len 128 l []
 have hfl : (ptsY l).flatten = (itemsY 128 [] l).2 := cutG_flat _ _ (by rw [hil]; exact Nat.le_refl _)
 have hpl : (ptsY l).length ≤ l.length := by have := cutG_len (sz := sizeI) (room := 104) l.length (itemsY 128 [] l).2; rw [hil] at this; exact this
 have hne := cutG_ne (sz := sizeI) (room := 104) l.length (itemsY 128 [] l).2
 have hnum : Num (pgsY l) := by
  unfold pgsY
  rw [e1]
  exact e2.append (by rw [leafPgs_nos, leafPgs_len])
 have hmay : ∀ q ∈ pgsY l, mayPg 128 q.kd q.ct q.pg q.lk q.tx q.bd = true := by
  intro q hq
  unfold pgsY at hq
  rcases List.mem_append.1 hq with h | h
  ·rw [e1] at h; exact e4 q h
  ·exact leafPgs_may hok q h
 obtain ⟨t1, t2, t3⟩ := levels_pages (f := l.length) hnum hmay hlev
 have hfll : (fksY l).length = (ptsY l).length := leafFks_len _ _
 have hpgl : (pgsY l).length ≤ 2460 := by unfold pgsY; rw [List.length_append, leafPgs_len, e1]; omega
 have hnd := num_nodup t1
 obtain ⟨im, K, l1, l2, l3, l4, l5, l6, l7⟩ := lay_reads (z := 128) (topY l).1 0 ⟨#[]⟩ t2 rfl
 have hrd := l7 hnd
 have hr0 : ∀ q ∈ pgsY l, readAt 128 im q.pg = some q := fun q hq => hrd q (levels_keep hq)
 have hI := e6 (readAt 128 im) (fun q hq => hr0 q (by unfold pgsY; rw [e1]; exact List.mem_append_left _ hq))
 obtain ⟨ms, m1, m2⟩ := leaves_tree (parts := ptsY l) (by rw [hfl]; exact hI) hne hok (fun q hq => hr0 q (by unfold pgsY; exact List.mem_append_right _ hq))
 obtain ⟨d, ns, d1, d2, d3, d4, d5, d6, d7⟩ := levels_tree (rd := readAt 128 im) (f := l.length) (k := 6) (L := pgsY l) (F := fksY l) m1 (by
  unfold pgsY
  rw [nos_append, e1]
  rw [e1] at m2
  exact m2.trans List.perm_append_comm) hnum hmay hlev (by omega) hrd
 obtain ⟨y1, y2⟩ := lay_yes (size := 128) (img := ⟨#[]⟩) (L := (topY l).1) l1
 have hT : (levelsY 128 l.length (pgsY l) (fksY l)) = topY l := rfl
 rw [hT] at d3 d4 d5
 have hlen : ns.length = (topY l).1.length := by rw [d5.length_eq, nosP_len]
 have hroot : ∃ b, (topY l).2 = [b] := by
  cases hF : (topY l).2 with
  | nil => rw [hF] at d4; exact absurd d4.1 h0
  | cons b t =>
   rw [hF] at d3
   simp only [List.length_cons] at d3
   cases t with
   | nil => exact ⟨b, rfl⟩
   | cons _ _ => simp at d3
 obtain ⟨b, hb⟩ := hroot
 rw [hb] at d4
 obtain ⟨p1, p2, n1, n2, g1, g2, g3, g4, g5, g6⟩ := d4
 subst g5 g6
 rw [List.append_nil] at g1 g2
 subst g1 g2
 have hrt : rootY l = b.rt := by unfold rootY; rw [hb]; rfl
 have t1' : nosP (topY l).1 = List.range' 2 (topY l).1.length := t1
 have hd5 : ns.Perm (List.range' 2 (topY l).1.length) := t1' ▸ d5
 have hKs : K = 2 + (topY l).1.length := by
  have hpos : 0 < (topY l).1.length := by
   rw [← hlen]
   cases d with
   | zero => exact g3.elim
   | succ d => obtain ⟨p, ms, _, h2, _⟩ := g3; rw [h2]; simp
  have hmem : ∀ n, n ∈ nosP (topY l).1 ↔ 2 ≤ n ∧ n < 2 + (topY l).1.length := fun n => by
   rw [show nosP (topY l).1 = List.range' 2 (topY l).1.length from t1, List.mem_range'_1]
  refine Nat.le_antisymm (l5 _ (by omega) (fun p hp => ((hmem p.pg).1 (List.mem_map_of_mem hp)).2)) ?_
  obtain ⟨p, hp, hpn⟩ := List.mem_map.1 ((hmem (1 + (topY l).1.length)).2 ⟨by omega, by omega⟩)
  have := l4 p hp
  have hpn : p.pg = 1 + (topY l).1.length := hpn
  omega
 refine ⟨im, d, ns, y1, y2, by rw [l2, hKs], d2, by omega, by rw [hrt]; exact g3, hd5, ?_⟩
 show (levelsY 128 l.length (pgsY l) (fksY l)).1.length ≤ 2600
 omega
end Go.Proofs.YtmmjckokjmpfpaaGreat

namespace Go.Proofs.YtmmjckokjmpfpaaGreat
open Go.RowKit
open Go.Lib hiding intOf

theorem pickF_one (b : Fk) (key : ByteArray) : pickF [b] key = 0 := by
 have := pickN_le [b] key
 unfold pickF
 simp at this
 omega
theorem pickF_cons {b c : Fk} {t : List Fk} {key : ByteArray} (hbc : lessB b.nm c.nm) : pickF (b :: c :: t) key = if Op.bytesLess key.toList c.nm.toList then 0 else pickF (c :: t) key + 1 := by
 rcases hb : Op.bytesLess key.toList b.nm.toList with _ | _
 ·have e1 : pickN (b :: c :: t) key = pickN (c :: t) key + 1 := by simp [pickN, List.takeWhile_cons, hb]
  rcases hc : Op.bytesLess key.toList c.nm.toList with _ | _
  ·have e2 : pickN (c :: t) key = (t.takeWhile fun f => !Op.bytesLess key.toList f.nm.toList).length + 1 := by simp [pickN, List.takeWhile_cons, hc]
   simp only [Bool.false_eq_true, if_false]
   unfold pickF
   omega
  ·have e2 : pickN (c :: t) key = 0 := by simp [pickN, List.takeWhile_cons, hc]
   simp only [if_true]
   unfold pickF
   omega
 ·have hc : Op.bytesLess key.toList c.nm.toList = true := lessB_trans hb hbc
  rw [hc, if_pos rfl]
  have e1 : pickN (b :: c :: t) key = 0 := by simp [pickN, List.takeWhile_cons, hb]
  unfold pickF
  omega
theorem asc_head {x : Pr} {t : List Pr} {key : ByteArray} (h : ((x :: t).map (·.ky)).Pairwise lessB) (hk : lessB key x.ky) : ∀ p ∈ x :: t, lessB key p.ky := by
 rw [List.map_cons, List.pairwise_cons] at h
 intro p hp
 rcases List.mem_cons.1 hp with rfl | hp
 ·exact hk
 ·exact lessB_trans hk (h.1 p.ky (List.mem_map_of_mem hp))
theorem ForksR.pick {T : Nat → List Pr → List Nat → Prop} {key : ByteArray} : ∀ {F : List Fk} {ps : List Pr} {ns : List Nat}, F ≠ [] → ForksR T F ps ns → (ps.map (·.ky)).Pairwise lessB →
  ∃ b pa pc pb na nc nb, F[pickF F key]? = some b ∧ T b.rt pc nc ∧ ps = pa ++ (pc ++ pb) ∧ ns = na ++ (nc ++ nb) ∧ (∀ p ∈ pa, lessB p.ky key) ∧ (∀ p ∈ pb, lessB key p.ky)
 | [], ps, ns, h0, _, _ => absurd rfl h0
 | [b], ps, ns, _, ⟨p1, p2, n1, n2, h1, h2, h3, h4, h5, h6⟩, _ => by
  subst h1 h2 h5 h6
  exact ⟨b, [], p1, [], [], n1, [], by rw [pickF_one]; rfl, h3, by simp, by simp, by simp, by simp⟩
 | b :: c :: t, ps, ns, _, ⟨p1, p2, n1, n2, h1, h2, h3, h4, h5⟩, hasc => by
  subst h1 h2
  rw [List.map_append, List.pairwise_append] at hasc
  obtain ⟨a1, a2, a3⟩ := hasc
  have h5' := h5
  obtain ⟨q1, q2, m1, m2, g1, g2, g3, g4, g5⟩ := h5'
  obtain ⟨x, t2, hx, hxc⟩ : ∃ x t2, p2 = x :: t2 ∧ x.ky = c.nm := by
   subst g1
   cases q1 with
   | nil => simp at g4
   | cons x q => exact ⟨x, q ++ q2, rfl, by simpa using g4⟩
  obtain ⟨y, t1, hy, hyb⟩ : ∃ y t1, p1 = y :: t1 ∧ y.ky = b.nm := by
   cases p1 with
   | nil => simp at h4
   | cons y q => exact ⟨y, q, rfl, by simpa using h4⟩
  have hlt : ∀ p ∈ p1, lessB p.ky c.nm := fun p hp => by rw [← hxc]; exact a3 p.ky (List.mem_map_of_mem hp) x.ky (by rw [hx]; simp)
  have hbc : lessB b.nm c.nm := by rw [← hyb]; exact hlt y (by rw [hy]; simp)
  rcases hk : Op.bytesLess key.toList c.nm.toList with _ | _
  ·obtain ⟨d, pa, pc, pb, na, nc, nb, e1, e2, e3, e4, e5, e6⟩ := ForksR.pick (key := key) (by simp) h5 a2
   refine ⟨d, p1 ++ pa, pc, pb, n1 ++ na, nc, nb, ?_, e2, by rw [e3, List.append_assoc], by rw [e4, List.append_assoc], ?_, e6⟩
   ·rw [pickF_cons hbc, hk]
    simpa using e1
   ·intro p hp
    rcases List.mem_append.1 hp with h | h
    ·by_cases he : key = c.nm
     ·rw [he]; exact hlt p h
     ·exact lessB_trans (hlt p h) (lessB_tri hk he)
    ·exact e5 p h
  ·refine ⟨b, [], p1, p2, [], n1, n2, by rw [pickF_cons hbc, hk]; rfl, h3, by simp, by simp, by simp, ?_⟩
   rw [hx] at a2 ⊢
   exact asc_head a2 (by rw [hxc]; exact hk)
theorem nodup_mid {P na nc nb : List Nat} {n : Nat} (h : (P ++ (n :: (na ++ (nc ++ nb)))).Nodup) : ((P ++ [n]) ++ nc).Nodup := by
 refine h.sublist ?_
 rw [List.append_assoc, List.singleton_append]
 refine List.Sublist.append_left (List.Sublist.cons_cons _ ?_) P
 exact (List.sublist_append_left nc nb).trans (List.sublist_append_right na _)
theorem TreeR.desc {s key : ByteArray} : ∀ {d f n : Nat} {ps : List Pr} {ns P : List Nat}, d ≤ f → TreeR (readAt 128 s) d n ps ns → (ps.map (·.ky)).Pairwise lessB → (P ++ ns).Nodup →
  ∃ way l q ms, descT 128 s key f n P = some (P ++ way, l) ∧ way.length = d ∧ way.head? = some n ∧ (∀ x ∈ way, x ∈ ns) ∧ (∃ z, way.getLast? = some z ∧ nodeN 128 s z = .lf l) ∧ ItemsR (readAt 128 s) l q ms ∧ l ≠ [] ∧ q.Sublist ps ∧ ∀ p ∈ ps, p.ky = key → p ∈ q
 | 0, _, _, _, _, _, _, h, _, _ => h.elim
 | d + 1, 0, _, _, _, _, hf, _, _, _ => by omega
 | d + 1, f + 1, n, ps, ns, P, hf, ⟨p, ms, h1, h2, h3⟩, hasc, hn => by
  subst h2
  have hnm : n ∉ P := fun hm => (List.nodup_append.1 hn).2.2 n hm n (by simp) rfl
  have hnode : nodeN 128 s n = p.node := by unfold nodeN; rw [h1]
  simp only [descT, if_neg hnm, hnode]
  rcases h3 with ⟨hd, l, h4, h5, h6⟩ | ⟨F, h4, h5, h6⟩
  ·subst hd
   rw [h4]
   exact ⟨[n], l, ps, ms, rfl, rfl, rfl, by simp, ⟨n, rfl, by rw [hnode, h4]⟩, h6, h5, List.Sublist.refl _, fun p hp _ => hp⟩
  ·obtain ⟨b, pa, pc, pb, na, nc, nb, e1, e2, e3, e4, e5, e6⟩ := ForksR.pick (key := key) h5 h6 hasc
   subst e3 e4
   have hasc2 : (pc.map (·.ky)).Pairwise lessB := hasc.sublist (((List.sublist_append_left pc pb).trans (List.sublist_append_right pa _)).map _)
   obtain ⟨way, l, q, ms2, g1, g2, g3, g4, ⟨z, g5, g6⟩, g7, g8, g9, g10⟩ := TreeR.desc (s := s) (key := key) (f := f) (by omega) e2 hasc2 (nodup_mid hn)
   rw [h4]
   refine ⟨n :: way, l, q, ms2, ?_, by simp [g2], rfl, ?_, ⟨z, ?_, g6⟩, g7, g8, g9.trans ((List.sublist_append_left pc pb).trans (List.sublist_append_right pa _)), ?_⟩
   ·simp only [e1, Option.map_some, Option.getD_some]
    rw [g1]
    simp
   ·intro x hx
    rcases List.mem_cons.1 hx with rfl | hx
    ·simp
    ·exact List.mem_cons_of_mem _ (List.mem_append_right _ (List.mem_append_left _ (g4 x hx)))
   ·cases way with
    | nil => cases g3
    | cons a t => rw [List.getLast?_cons_cons]; exact g5
   ·intro x hx hk
    rcases List.mem_append.1 hx with h | h
    ·exact absurd (e5 x h) (by rw [hk]; exact lessB_irrefl)
    ·rcases List.mem_append.1 h with h | h
     ·exact g10 x h hk
     ·exact absurd (e6 x h) (by rw [hk]; exact lessB_irrefl)
end Go.Proofs.YtmmjckokjmpfpaaGreat

namespace Go.Proofs.YtmmjckokjmpfpaaGreat
open Go.RowKit
open Go.Lib hiding intOf

theorem lessB_self (a : ByteArray) : Op.bytesLess a.toList a.toList = false := by
 rcases h : Op.bytesLess a.toList a.toList with _ | _
 ·rfl
 ·exact (lessB_irrefl h).elim
theorem items_get {s : ByteArray} : ∀ {l : List It} {q : List Pr} {ms : List Nat}, ItemsR (readAt 128 s) l q ms → (q.map (·.ky)).Pairwise lessB → ∀ p ∈ q, findB l p.ky = true ∧ ∃ i ns, l[findN l p.ky]? = some i ∧ valN 128 s i = some (p.vl, ns)
 | [], q, ms, ⟨h1, h2⟩, _, p, hp => by subst h1; cases hp
 | i :: t, q, ms, ⟨v, n1, p2, n2, h1, h2, h3, h4⟩, hasc, p, hp => by
  subst h1 h2
  rw [List.map_cons, List.pairwise_cons] at hasc
  rcases List.mem_cons.1 hp with rfl | hp
  ·have e : findN (i :: t) i.ky = 0 := by simp [findN, List.takeWhile_cons, lessB_self]
   exact ⟨by unfold findB; rw [e]; simp, i, n1, by rw [e]; rfl, h3.val⟩
  ·obtain ⟨g1, j, ns, g2, g3⟩ := items_get h4 hasc.2 p hp
   have hl : Op.bytesLess i.ky.toList p.ky.toList = true := hasc.1 p.ky (List.mem_map_of_mem hp)
   have e : findN (i :: t) p.ky = findN t p.ky + 1 := by simp [findN, List.takeWhile_cons, hl]
   refine ⟨?_, j, ns, by rw [e]; simpa using g2, g3⟩
   unfold findB at g1 ⊢
   rw [e]
   simpa using g1
theorem items_keys {rd : Nat → Option Pg} : ∀ {l : List It} {q : List Pr} {ms : List Nat}, ItemsR rd l q ms → q.map (·.ky) = l.map (·.ky)
 | [], q, ms, ⟨h1, _⟩ => by subst h1; rfl
 | i :: t, q, ms, ⟨v, n1, p2, n2, h1, h2, h3, h4⟩ => by subst h1; simp [items_keys h4]
theorem items_none {rd : Nat → Option Pg} {l : List It} {q : List Pr} {ms : List Nat} {key : ByteArray} (h : ItemsR rd l q ms) (hn : ∀ p ∈ q, p.ky ≠ key) : findB l key = false := by
 unfold findB
 cases hb : l[findN l key]? with
 | none => rfl
 | some b =>
  show (b.ky.toList == key.toList) = false
  rw [beq_eq_false_iff_ne]
  intro he
  have hk := bytesP_inj he
  have hm : b.ky ∈ q.map (·.ky) := by rw [items_keys h]; exact List.mem_map_of_mem (List.mem_of_getElem? hb)
  obtain ⟨p, hp, hpk⟩ := List.mem_map.1 hm
  exact hn p hp (hpk.trans hk)
theorem TreeR.get {s : ByteArray} {root d : Nat} {ps : List Pr} {ns : List Nat} (h : TreeR (readAt 128 s) d root ps ns) (hd : d ≤ 16) (hr : root ≠ 0) (hasc : (ps.map (·.ky)).Pairwise lessB) (hn : ns.Nodup) (key : ByteArray) :
  (∀ p ∈ ps, p.ky = key → getV 128 s root key = (p.vl, 0)) ∧ ((∀ p ∈ ps, p.ky ≠ key) → getV 128 s root key = (⟨#[]⟩, 5)) := by
 obtain ⟨way, l, q, ms, g1, g2, g3, g4, g5, g6, g7, g8, g9⟩ := h.desc (key := key) (P := []) hd hasc (by simpa using hn)
 have hp : pathV 128 s root key = some (way, l) := by
  unfold pathV
  rw [show goodSize 128 = true from rfl, if_pos rfl, if_neg hr, g1]
  rfl
 have hE : pathE 128 s root key = 0 := by unfold pathE; rw [hp]; rfl
 have hI : pathI 128 s root key = l := by unfold pathI; rw [hp]; rfl
 have hqa : (q.map (·.ky)).Pairwise lessB := hasc.sublist (g8.map _)
 refine ⟨fun p hpm hk => ?_, fun hno => ?_⟩
 ·obtain ⟨e1, i, ns', e2, e3⟩ := items_get g6 hqa p (g9 p hpm hk)
  rw [hk] at e1 e2
  unfold getV
  rw [hE, hI, e1, e2]
  simp [e3]
 ·have := items_none g6 (key := key) (fun p hp => hno p (g8.subset hp))
  unfold getV
  rw [hE, hI, this]
  simp
end Go.Proofs.YtmmjckokjmpfpaaGreat

namespace Go.Proofs.YtmmjckokjmpfpaaGreat
open Go.RowKit

structure KeepsU (U : Nat → Prop) (W W' : World) : Prop where
 os : W'.os = W.os
 tape : W'.tape = W.tape
 output : W'.output = W.output
 size : W.heap.size ≤ W'.heap.size
 block : ∀ k, k < W.heap.size → U k → W'.heap[k]? = W.heap[k]?
theorem KeepsU.mono {U V : Nat → Prop} {A B : World} (h : KeepsU U A B) (hv : ∀ k, V k → U k) : KeepsU V A B := ⟨h.os, h.tape, h.output, h.size, fun i hi hu => h.block i hi (hv i hu)⟩
theorem KeepsU.of_kept {U F : Nat → Prop} {A B : World} (h : Kept F A B) (hd : ∀ k, U k → ¬ F k) : KeepsU U A B := ⟨h.os, h.tape, h.output, h.size, fun i hi hu => h.block i hi (hd i hu)⟩
theorem KeepsU.of_grown {U : Nat → Prop} {A B : World} {row : Option Nat} (h : A.grownBy B row) (hr : ∀ k, row = some k → ¬ U k) : KeepsU U A B := ⟨h.os, h.tape, h.output, h.size, fun i hi hu => h.block i hi fun e => hr i e.symm hu⟩
theorem KeepsU.of_below {U : Nat → Prop} {A B : World} (h : Below A.heap.size A B) : KeepsU U A B := ⟨h.os, h.tape, h.output, h.size, fun i hi _ => h.block i hi⟩
theorem KeepsU.alloc (U : Nat → Prop) (A : World) (o : Obj) : KeepsU U A (A.alloc o) := KeepsU.of_below ((Below.refl _ _).alloc (Nat.le_refl _) o)
def StabU {β : Type} (J : β → (Nat → Prop) → World → Prop) : Prop := ∀ s U W W', J s U W → KeepsU U W W' → J s U W'
def LtU {β : Type} (J : β → (Nat → Prop) → World → Prop) : Prop := ∀ s U W, J s U W → ∀ k, U k → k < W.heap.size
def RoundU {β : Type} (J : β → (Nat → Prop) → World → Prop) (xs : β) (U : Nat → Prop) (W W' : World) : Prop := ∃ U' : Nat → Prop, (∀ k, U' k → U k ∨ W.heap.size ≤ k) ∧ Kept U W W' ∧ J xs U' W'
def AfterU {β : Type} (J Jx : β → (Nat → Prop) → World → Prop) (U : Nat → Prop) (W : World) (xs : β) (e : Ending) (W' : World) : Prop :=
 (e = .returned (.bool true) ∧ RoundU J xs U W W') ∨ (e = .returned (.bool false) ∧ RoundU Jx xs U W W')
def SeqU {α : Type} (P : Program) (g : Nat) (lb : Array Value) (encs : α → Array Value) (XS : List α) (M : Nat → Prop) (w : World) : Prop :=
 ∀ (l n : Nat) (J Jx : List α → (Nat → Prop) → World → Prop) (U0 : Nat → Prop) (W : World), Below w.heap.size w W → StabU J → StabU Jx → LtU J → LtU Jx → (∀ k, M k → ¬ U0 k) →
  (∀ m pre x U W1, J pre U W1 → pre ++ [x] <+: XS → YieldAt Fence.wide m P l (encs x) W1 (AfterU J Jx U W1 (pre ++ [x]))) →
  J [] U0 W →
  CallsIn Fence.wide n P g (#[.func (.yield l) #[] #[]] ++ lb) W fun e W' => (∃ v, e = .returned v) ∧ ∃ U', (J XS U' W' ∨ ∃ pre, pre <+: XS ∧ Jx pre U' W')
def postU {β : Type} (I : β → (Nat → Prop) → World → Prop) (Ix : Code → β → (Nat → Prop) → World → Prop) (xs : β) (U : Nat → Prop) (W : World) : Exit → Act → World → Prop
 | .normal, _, W' => RoundU I xs U W W'
 | .ret, _, W' => RoundU (Ix .ret) xs U W W'
 | .exit id, _, W' => RoundU (Ix (.exit id)) xs U W W'
 | .goto t, _, W' => RoundU (Ix (.goto t)) xs U W W'
 | .panic _, _, _ => False
 | .outgrown, _, _ => False
theorem keepsU_put {U : Nat → Prop} (W : World) {l : Nat} (o : Obj) (hl : ¬ U l) : KeepsU U W (W.putObj l o) := KeepsU.of_grown (grownBy_putObj' W l o) (fun k e => by cases e; exact hl)
theorem kept_put {U : Nat → Prop} (W : World) {l : Nat} (o : Obj) (hl : U l) : Kept U W (W.putObj l o) := Kept.of_grown (grownBy_putObj' W l o) (fun k e => by cases e; exact hl)
theorem wpIn_rangeFunc_U {α : Type} {P : Program} {g : Operand} {ps : Array Tmp} {assign body : Code} {Q : Exit → Act → World → Prop} {a : Act} {w : World} {n : Nat}
  {gf : Nat} {lb : Array Value} (hg : a.eval g = .func (.func gf) #[] lb) (eg : ∀ args w, (callFunc gf args).run P w = .ok (.enter gf args) w)
  {encs : α → Array Value} {XS : List α} {M : Nat → Prop} {w0 : World} (hseq : SeqU P gf lb encs XS M w0) (hb0 : Below w0.heap.size w0 w) (hM : ∀ k, M k → k < w.heap.size) (hps : ∀ x, (encs x).size = ps.size)
  (I : List α → (Nat → Prop) → World → Prop) (Ix : Code → List α → (Nat → Prop) → World → Prop) (A : List α → α → Act → (Nat → Prop) → World → Prop)
  (hI : StabU I) (hIx : ∀ c, StabU (Ix c)) (hA : ∀ pre x a', StabU (fun (_ : Unit) => A pre x a')) (lI : LtU I) (lIx : ∀ c, LtU (Ix c))
  (U0 : Nat → Prop) (hMU : ∀ k, M k → ¬ U0 k) (h0 : I [] U0 w)
  (hassign : ∀ (m l : Nat) (pre : List α) (x : α) (U : Nat → Prop) (W : World) (K : Act → World → Prop), I pre U W → pre ++ [x] <+: XS →
   (∀ (a' : Act) (U' : Nat → Prop) (W' : World), (∀ k, U' k → U k ∨ W.heap.size ≤ k) → Kept U W W' → A pre x a' U' W' → K a' W') →
   assign.wpIn (Fence.wide.inRound l) m P (Exit.then K (fun _ _ _ => False)) { tmps := (ps.zip (encs x)).foldl (fun t (p, v) => t.setIfInBounds p v) a.tmps, defers := [] } W)
  (hbody : ∀ (m l : Nat) (pre : List α) (x : α) (a' : Act) (U : Nat → Prop) (W : World), A pre x a' U W → pre ++ [x] <+: XS → body.wpIn (Fence.wide.inRound l) m P (postU I Ix (pre ++ [x]) U W) a' W)
  (hdone : ∀ (D : Nat) (U : Nat → Prop) (W : World), w.heap.size ≤ D → ¬ U D → I XS U W → W.heap[D]? = some (.deferred (some [])) → Q .normal { a with defers := { target := .collected D, args := #[] } :: a.defers } W)
  (hstop : ∀ (D : Nat) (c : Code) (pre : List α) (U : Nat → Prop) (W : World), w.heap.size ≤ D → ¬ U D → pre <+: XS → Ix c pre U W → W.heap[D]? = some (.deferred (some [])) → c.wpIn Fence.wide n P Q { a with defers := { target := .collected D, args := #[] } :: a.defers } W) :
  (Code.rangeFunc g ps assign body).wpIn Fence.wide n P Q a w := by
 refine wpIn_rangeFunc ?_
 intro fn hfn
 obtain ⟨rec, hrec⟩ : ∃ rec : LoopState → Option Code → Loop, rec = fun st pe => { state := st, pending := pe, fn, tmps := a.tmps, params := ps, assign, body, defers := w.heap.size } := ⟨_, rfl⟩
 obtain ⟨W1, hW1⟩ : ∃ W1, (w.alloc (.deferred (some []))).alloc (.loop (rec .ready none)) = W1 := ⟨_, rfl⟩
 have hL1 : W1.heap[w.heap.size + 1]? = some (.loop (rec .ready none)) := by
  rw [← hW1]; have := World.alloc_heap_new (w.alloc (.deferred (some []))) (.loop (rec .ready none)); rwa [World.size_alloc] at this
 have hK1 : W1.heap[w.heap.size]? = some (.deferred (some [])) := by
  rw [← hW1]; exact (Below.heap_alloc _ _ _ (by simp)).trans (World.alloc_heap_new w _)
 have hI1 : I [] U0 W1 := by rw [← hW1]; exact hI _ _ _ _ (hI _ _ _ _ h0 (KeepsU.alloc _ _ _)) (KeepsU.alloc _ _ _)
 have hb1 : Below w0.heap.size w0 W1 := by
  rw [← hW1]; exact hb0.trans ((((Below.refl _ w).alloc (Nat.le_refl _) _).alloc (by simp) _).mono hb0.size)
 obtain ⟨D, hD⟩ : ∃ D, D = w.heap.size := ⟨_, rfl⟩
 refine ⟨w.heap.size + 1, [{ target := .collected w.heap.size, args := #[] }], W1, { target := .fn (.func gf) lb, args := #[.func (.yield (w.heap.size + 1)) #[] #[]] }, W1, gf,
  #[.func (.yield (w.heap.size + 1)) #[] #[]] ++ lb, W1, ?_, ?_, ?_, ?_, fun h => by simp [Fence.wide] at h, ?_⟩
 ·rw [← hW1, hrec]; exact run_enterLoop_outer _ _ _ _ _
 ·simp only [resolve, hg]
  simp [go_sem]
 ·intro f' _; trivial
 ·simp [invoke, go_sem, eg]
 ·rw [← hD] at hL1 hK1 ⊢
  have hU0D : ∀ k, U0 k → k < D := fun k hk => hD ▸ lI _ _ _ h0 k hk
  have hext : ∀ {J : List α → (Nat → Prop) → World → Prop} (st : LoopState) (pe : Option Code → Prop), StabU J → StabU (fun (pre : List α) (U : Nat → Prop) (W : World) => ∃ (V : Nat → Prop) (c : Option Code), pe c ∧ (∀ k, U k ↔ V k ∨ k = D ∨ k = D + 1) ∧ ¬ V D ∧ ¬ V (D + 1) ∧ J pre V W ∧ W.heap[D + 1]? = some (.loop (rec st c)) ∧ W.heap[D]? = some (.deferred (some []))) :=
   fun st pe hs pre U W W' h hk => by
    obtain ⟨V, c, hc, hU, n1, n2, hj, hl, hd⟩ := h
    exact ⟨V, c, hc, hU, n1, n2, hs _ _ _ _ hj (hk.mono fun k hv => (hU k).2 (.inl hv)), (hk.block _ (Array.getElem?_eq_some_iff.1 hl).1 ((hU _).2 (.inr (.inr rfl)))).trans hl, (hk.block _ (Array.getElem?_eq_some_iff.1 hd).1 ((hU _).2 (.inr (.inl rfl)))).trans hd⟩
  have hlt : ∀ {J : List α → (Nat → Prop) → World → Prop} (st : LoopState) (pe : Option Code → Prop), LtU J → LtU (fun (pre : List α) (U : Nat → Prop) (W : World) => ∃ (V : Nat → Prop) (c : Option Code), pe c ∧ (∀ k, U k ↔ V k ∨ k = D ∨ k = D + 1) ∧ ¬ V D ∧ ¬ V (D + 1) ∧ J pre V W ∧ W.heap[D + 1]? = some (.loop (rec st c)) ∧ W.heap[D]? = some (.deferred (some []))) :=
   fun st pe hs pre U W h k hk => by
    obtain ⟨V, c, hc, hU, n1, n2, hj, hl, hd⟩ := h
    rcases (hU k).1 hk with h1 | rfl | rfl
    ·exact hs _ _ _ hj k h1
    ·exact (Array.getElem?_eq_some_iff.1 hd).1
    ·exact (Array.getElem?_eq_some_iff.1 hl).1
  have hIxS : StabU (fun (pre : List α) (V : Nat → Prop) (W : World) => True) := fun _ _ _ _ _ _ => trivial
  refine (hseq (D + 1) (n - 1)
   (fun pre U W => ∃ (V : Nat → Prop) (c : Option Code), c = none ∧ (∀ k, U k ↔ V k ∨ k = D ∨ k = D + 1) ∧ ¬ V D ∧ ¬ V (D + 1) ∧ I pre V W ∧ W.heap[D + 1]? = some (.loop (rec .ready c)) ∧ W.heap[D]? = some (.deferred (some [])))
   (fun pre U W => ∃ c0 : Code, ∃ (V : Nat → Prop) (c : Option Code), c = some c0 ∧ (∀ k, U k ↔ V k ∨ k = D ∨ k = D + 1) ∧ ¬ V D ∧ ¬ V (D + 1) ∧ Ix c0 pre V W ∧ W.heap[D + 1]? = some (.loop (rec .done c)) ∧ W.heap[D]? = some (.deferred (some [])))
   (fun k => U0 k ∨ k = D ∨ k = D + 1) W1 hb1 (hext .ready (fun c => c = none) hI) (fun pre U W W' ⟨c0, h⟩ hk => ⟨c0, hext .done (fun c => c = some c0) (hIx c0) pre U W W' h hk⟩) (hlt .ready (fun c => c = none) lI) (fun pre U W ⟨c0, h⟩ => hlt .done (fun c => c = some c0) (lIx c0) pre U W h)
   (fun k hk h => by
    have h1 := hM k hk
    rcases h with h | h | h
    ·exact hMU k hk h
    ·omega
    ·omega)
   ?_ ⟨U0, none, rfl, fun _ => Iff.rfl, fun h => by have := hU0D _ h; omega, fun h => by have := hU0D _ h; omega, hI1, hL1, hK1⟩).mono ?_
  ·-- one round
   rintro m pre x U W ⟨V, c, rfl, hU, n1, n2, hi, hl, hk⟩ hpre
   have hlW : D + 1 < W.heap.size := (Array.getElem?_eq_some_iff.1 hl).1
   have hy := run_yield (P := P) (args := encs x) hl (by rw [hrec]; exact hps x)
   rw [hrec] at hy
   refine ⟨fn, _, assign, body, hy, roundIn_of_wpIn trivial (hassign m _ pre x V W _ hi hpre ?_)⟩
   clear hy
   intro a' V1 Wa hV1 hka hAx
   have hsa := hka.size
   have hla : Wa.heap[D + 1]? = some (.loop (rec .ready none)) := (hka.block _ hlW n2).trans hl
   have hda : Wa.heap[D]? = some (.deferred (some [])) := (hka.block _ (by omega) n1).trans hk
   have m1 : ¬ V1 D := fun h => by rcases hV1 _ h with h1 | h1; exact n1 h1; omega
   have m2 : ¬ V1 (D + 1) := fun h => by rcases hV1 _ h with h1 | h1; exact n2 h1; omega
   refine ⟨_, run_beginRound hla (by rw [hrec]), ?_⟩
   obtain ⟨Wb, hWb⟩ : ∃ Wb, Wb = Wa.putObj (D + 1) (.loop { rec .ready none with state := .busy }) := ⟨_, rfl⟩
   rw [← hWb]
   have hAb : A pre x a' V1 Wb := by rw [hWb]; exact hA pre x a' () V1 _ _ hAx (keepsU_put _ _ m2)
   have hlb : Wb.heap[D + 1]? = some (.loop { rec .ready none with state := .busy }) := by rw [hWb]; exact World.putObj_heap_same (by omega)
   have hdb : Wb.heap[D]? = some (.deferred (some [])) := by rw [hWb]; exact (World.putObj_heap_other (by omega)).trans hda
   have hkb : Kept U W Wb := by rw [hWb]; exact (hka.mono fun k h => (hU k).2 (.inl h)).trans (kept_put _ _ ((hU _).2 (.inr (.inr rfl))))
   have hsb : W.heap.size ≤ Wb.heap.size := hkb.size
   refine wpIn_mono (hbody m _ pre x a' V1 Wb hAb hpre) ?_
   have fin : ∀ {J : List α → (Nat → Prop) → World → Prop} (hs : StabU J) (jump : Option Code) (W3 : World), RoundU J (pre ++ [x]) V1 Wb W3 →
     (Instr.endRound (D + 1) jump).run P W3 = .ok (.bool jump.isNone) (W3.putObj (D + 1) (.loop (rec (if jump.isNone then .ready else .done) jump))) ∧
     ∃ U' : Nat → Prop, (∀ k, U' k → U k ∨ W.heap.size ≤ k) ∧ Kept U W (W3.putObj (D + 1) (.loop (rec (if jump.isNone then .ready else .done) jump))) ∧
     ∃ V' : Nat → Prop, (∀ k, U' k ↔ V' k ∨ k = D ∨ k = D + 1) ∧ ¬ V' D ∧ ¬ V' (D + 1) ∧ J (pre ++ [x]) V' (W3.putObj (D + 1) (.loop (rec (if jump.isNone then .ready else .done) jump))) ∧
     (W3.putObj (D + 1) (.loop (rec (if jump.isNone then .ready else .done) jump))).heap[D + 1]? = some (.loop (rec (if jump.isNone then .ready else .done) jump)) ∧
     (W3.putObj (D + 1) (.loop (rec (if jump.isNone then .ready else .done) jump))).heap[D]? = some (.deferred (some [])) := fun {J} hs jump W3 hp => by
    obtain ⟨V2, hV2, hk3, hj3⟩ := hp
    have hs3 := hk3.size
    have hl3 : W3.heap[D + 1]? = some (.loop { rec .ready none with state := .busy }) := (hk3.block _ (by omega) m2).trans hlb
    have hd3 : W3.heap[D]? = some (.deferred (some [])) := (hk3.block _ (by omega) m1).trans hdb
    have p1 : ¬ V2 D := fun h => by rcases hV2 _ h with h1 | h1; exact m1 h1; omega
    have p2 : ¬ V2 (D + 1) := fun h => by rcases hV2 _ h with h1 | h1; exact m2 h1; omega
    have he := run_endRound (P := P) jump hl3
    rw [hrec] at he ⊢
    refine ⟨he, fun k => V2 k ∨ k = D ∨ k = D + 1, ?_, ?_, V2, fun _ => Iff.rfl, p1, p2, hs _ _ _ _ hj3 (keepsU_put _ _ p2), World.putObj_heap_same (by omega), (World.putObj_heap_other (by omega)).trans hd3⟩
    ·rintro k (h | rfl | rfl)
     ·rcases hV2 k h with h1 | h1
      ·rcases hV1 k h1 with h2 | h2
       ·exact .inl ((hU k).2 (.inl h2))
       ·exact .inr h2
      ·right; omega
     ·exact .inl ((hU _).2 (.inr (.inl rfl)))
     ·exact .inl ((hU _).2 (.inr (.inr rfl)))
    ·refine (hkb.then hk3 fun k h => ?_).trans (kept_put _ _ ((hU _).2 (.inr (.inr rfl))))
     rcases hV1 k h with h1 | h1
     ·exact .inl ((hU k).2 (.inl h1))
     ·exact .inr h1
   rintro e a3 W3 hp
   cases e with
   | normal =>
    obtain ⟨hr, U', hU', hkp, V', q1, q2, q3, q4, q5, q6⟩ := fin hI none W3 hp
    exact ⟨_, _, hr, .inl ⟨rfl, U', hU', hkp, V', none, rfl, q1, q2, q3, q4, q5, q6⟩⟩
   | ret =>
    obtain ⟨hr, U', hU', hkp, V', q1, q2, q3, q4, q5, q6⟩ := fin (hIx _) (some .ret) W3 hp
    exact ⟨_, _, hr, .inr ⟨rfl, U', hU', hkp, .ret, V', _, rfl, q1, q2, q3, q4, q5, q6⟩⟩
   | exit id =>
    obtain ⟨hr, U', hU', hkp, V', q1, q2, q3, q4, q5, q6⟩ := fin (hIx _) (some (.exit id)) W3 hp
    exact ⟨_, _, hr, .inr ⟨rfl, U', hU', hkp, .exit id, V', _, rfl, q1, q2, q3, q4, q5, q6⟩⟩
   | goto t =>
    obtain ⟨hr, U', hU', hkp, V', q1, q2, q3, q4, q5, q6⟩ := fin (hIx _) (some (.goto t)) W3 hp
    exact ⟨_, _, hr, .inr ⟨rfl, U', hU', hkp, .goto t, V', _, rfl, q1, q2, q3, q4, q5, q6⟩⟩
   | panic ch => exact hp.elim
   | outgrown => exact hp.elim
  ·-- behind the iterator
   rintro e W2 ⟨⟨v, rfl⟩, U', (⟨V, c, rfl, hU, n1, n2, hi, hl, hk⟩ | ⟨pre, hpre, c0, V, c, rfl, hU, n1, n2, hi, hl, hk⟩)⟩
   ·exact ⟨none, _, by have := run_endLoop (P := P) hl (by rw [hrec]; simp); rw [hrec] at this; exact this, hdone _ V _ (by omega) n1 (hI _ _ _ _ hi (keepsU_put _ _ n2)) ((World.putObj_heap_other (by omega)).trans hk)⟩
   ·exact ⟨some c0, _, by have := run_endLoop (P := P) hl (by rw [hrec]; simp); rw [hrec] at this; exact this, hstop _ c0 pre V _ (by omega) n1 hpre (hIx c0 _ _ _ _ hi (keepsU_put _ _ n2)) ((World.putObj_heap_other (by omega)).trans hk)⟩
end Go.Proofs.YtmmjckokjmpfpaaGreat

namespace Go.Proofs.YtmmjckokjmpfpaaGreat
open Go.RowKit Go.Shelf
attribute [local go_sem] Oper.semAt_some

theorem room_none {F : Fence} (hd : F.depth = none) (k : Nat) : F.room k := fun d h => by rw [hd] at h; cases h
theorem round_any {F : Fence} (hd : F.depth = none) {m m' : Nat} {P : Program} {l : Nat} {f : FuncId} {tmps : Array Value} {assign body : Code} {w : World} {R : Ending → World → Prop}
  (h : RoundIn F m P l f tmps assign body w R) : RoundIn F m' P l f tmps assign body w R := ⟨h.1, fun c cs _ => h.2 c cs (room_none hd _)⟩
def YieldsTo (yv : Value) (args : Array Value) (W : World) (R : Ending → World → Prop) : Prop :=
 (∃ l fn tmps assign body, yv = .func (.yield l) #[] #[] ∧ (Instr.yield l args).run Tryz.prog W = .ok (.round l fn tmps assign body) W ∧ ∀ m, RoundIn Fence.wide m Tryz.prog l fn tmps assign body W R) ∨
 (∃ g lb, yv = .func (.func g) #[] lb ∧ (∀ args w, (callFunc g args).run Tryz.prog w = .ok (.enter g args) w) ∧ Calls Tryz.prog g (args ++ lb) W R)
theorem YieldsTo.of_yield {l : Nat} {args : Array Value} {W : World} {R : Ending → World → Prop} (h : YieldAt Fence.wide 0 Tryz.prog l args W R) : YieldsTo (.func (.yield l) #[] #[]) args W R := by
 obtain ⟨fn, tmps, assign, body, hy, hr⟩ := h
 exact .inl ⟨l, fn, tmps, assign, body, rfl, hy, fun m => round_any rfl hr⟩
def encP (x : Pr × Int) : Array Value := #[.agg #[.string x.1.ky, .string x.1.vl], .int .i64 x.2]
structure Hears (XS : List (Pr × Int)) (J Jx : List (Pr × Int) → (Nat → Prop) → World → Prop) (yv : Value) : Prop where
 sJ : StabU J
 sJx : StabU Jx
 lJ : LtU J
 lJx : LtU Jx
 tell : ∀ pre x U W, J pre U W → pre ++ [x] <+: XS → YieldsTo yv (encP x) W (AfterU J Jx U W (pre ++ [x]))
def FailPost (J Jx : List (Pr × Int) → (Nat → Prop) → World → Prop) (xs : List (Pr × Int)) (U : Nat → Prop) (w : World) (e : Ending) (w' : World) : Prop :=
 e = .returned (.bool false) ∧ (RoundU J xs U w w' ∨ RoundU Jx xs U w w')
set_option maxRecDepth 100000 in
set_option maxHeartbeats 3200000 in
theorem fail_any {XS : List (Pr × Int)} {J Jx : List (Pr × Int) → (Nat → Prop) → World → Prop} {yv : Value} (H : Hears XS J Jx yv) (N : Nat) (pre : List (Pr × Int)) (U : Nat → Prop) (w : World) (hj : J pre U w) (hx : pre ++ [(Pr.zero, 4)] <+: XS) :
  CallsIn Fence.wide N Tryz.prog 107 #[yv] w (FailPost J Jx (pre ++ [(Pr.zero, 4)]) U w) := by
 have hy := H.tell pre (Pr.zero, 4) U w hj hx
 obtain ⟨xs, hxs⟩ : ∃ xs, xs = pre ++ [(Pr.zero, 4)] := ⟨_, rfl⟩
 rw [← hxs] at hy ⊢
 simp only [encP, Pr.zero] at hy
 clear hxs hx hj H
 rcases hy with ⟨l, fn, tmps, assign, body, rfl, hy, hR⟩ | ⟨g, lb, rfl, eg, hR⟩
 ·refine callsIn_of_wp Tryz.func107 rfl trivial ?_ rfl
  simp only [Tryz.ntmps107, List.size_toArray, List.length_cons, List.length_nil, Nat.reduceAdd, Nat.reduceSub, Array.replicate_succ, Array.replicate_zero, List.push_toArray, List.append_toArray, List.nil_append, List.cons_append]
  gi_wp2
  refine ⟨fun h => by simp [Fence.wide] at h, ?_⟩
  refine (hR _).mono ?_
  rintro e w1 h
  rcases h with ⟨rfl, h⟩ | ⟨rfl, h⟩
  ·have HH := Lib.hid h
   clear h
   gi_wp2
   go_ret
   exact ⟨rfl, .inl HH.out⟩
  ·have HH := Lib.hid h
   clear h
   gi_wp2
   go_ret
   exact ⟨rfl, .inr HH.out⟩
 ·refine callsIn_of_wp Tryz.func107 rfl trivial ?_ rfl
  simp only [Tryz.ntmps107, List.size_toArray, List.length_cons, List.length_nil, Nat.reduceAdd, Nat.reduceSub, Array.replicate_succ, Array.replicate_zero, List.push_toArray, List.append_toArray, List.nil_append, List.cons_append]
  gi_wp2
  refine ⟨trivial, fun h => by simp [Fence.wide] at h, ?_⟩
  refine (callsIn_wide.2 hR).mono ?_
  rintro e w1 h
  rcases h with ⟨rfl, h⟩ | ⟨rfl, h⟩
  ·have HH := Lib.hid h
   clear h
   gi_wp2
   go_ret
   exact ⟨rfl, .inl HH.out⟩
  ·have HH := Lib.hid h
   clear h
   gi_wp2
   go_ret
   exact ⟨rfl, .inr HH.out⟩
end Go.Proofs.YtmmjckokjmpfpaaGreat

