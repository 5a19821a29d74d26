/-
  Texts that the main proof rests on, put together: TreeR, CnMath2, CnMath3, LaMath. No statement is proved here.
-/
import Derived.Test.YtmmjckokjmpfpaaGreatJ15
import Derived.Test.YtmmjckokjmpfpaaGreatJ12
import Derived.Test.YtmmjckokjmpfpaaGreatJ34
import Derived.Test.YtmmjckokjmpfpaaGreatJ14
set_option linter.unusedVariables false
set_option linter.unusedSimpArgs false
namespace Go.Proofs.YtmmjckokjmpfpaaGreat
open Go.RowKit
open Go.Lib hiding intOf

def ItemR (rd : Nat → Option Pg) (i : It) (v : ByteArray) (ns : List Nat) : Prop :=
 (i.ov = false ∧ v = i.vl ∧ ns = []) ∨
 (i.ov = true ∧ i.ln = v.size ∧ ∃ (tx : Nat) (L : List Pg), onL 128 tx ns v = some L ∧ ns.head? = some i.hd ∧ ∀ p ∈ L, rd p.pg = some p)
def ItemsR (rd : Nat → Option Pg) : List It → List Pr → List Nat → Prop
 | [], ps, ns => ps = [] ∧ ns = []
 | i :: t, ps, ns => ∃ v n1 p2 n2, ps = ⟨i.ky, v⟩ :: p2 ∧ ns = n1 ++ n2 ∧ ItemR rd i v n1 ∧ ItemsR rd t p2 n2
def ForksR (T : Nat → List Pr → List Nat → Prop) : List Fk → List Pr → List Nat → Prop
 | [], ps, ns => ps = [] ∧ ns = []
 | b :: t, ps, ns => ∃ p1 p2 n1 n2, ps = p1 ++ p2 ∧ ns = n1 ++ n2 ∧ T b.rt p1 n1 ∧ p1.head?.map (·.ky) = some b.nm ∧ ForksR T t p2 n2
def TreeR (rd : Nat → Option Pg) : Nat → Nat → List Pr → List Nat → Prop
 | 0, _, _, _ => False
 | d + 1, n, ps, ns => ∃ p ms, rd n = some p ∧ ns = n :: ms ∧ ((d = 0 ∧ ∃ l, p.node = .lf l ∧ l ≠ [] ∧ ItemsR rd l ps ms) ∨ ∃ F, p.node = .br F ∧ F ≠ [] ∧ ForksR (TreeR rd d) F ps ms)

theorem ForksR.mono {T T' : Nat → List Pr → List Nat → Prop} : ∀ {F : List Fk} {ps : List Pr} {ns : List Nat}, (∀ n p1 n1, (∀ x ∈ n1, x ∈ ns) → T n p1 n1 → T' n p1 n1) → ForksR T F ps ns → ForksR T' F ps ns
 | [], ps, ns, _, h => h
 | b :: F, ps, ns, hT, ⟨p1, p2, n1, n2, h1, h2, h3, h4, h5⟩ => ⟨p1, p2, n1, n2, h1, h2, hT _ _ _ (fun x hx => by rw [h2]; exact List.mem_append_left _ hx) h3, h4, ForksR.mono (fun n q1 m1 hm => hT n q1 m1 (fun x hx => by rw [h2]; exact List.mem_append_right _ (hm x hx))) h5⟩
theorem ItemR.agree {rd rd' : Nat → Option Pg} {i : It} {v : ByteArray} {ns : List Nat} (hr : ∀ n ∈ ns, rd' n = rd n) (h : ItemR rd i v ns) : ItemR rd' i v ns := by
 rcases h with h | ⟨h1, h2, tx, L, h3, h4, h5⟩
 ·exact .inl h
 ·refine .inr ⟨h1, h2, tx, L, h3, h4, fun p hp => ?_⟩
  have hn := on_nos (onL_some h3).2.2.2.2.2.2
  rw [hr p.pg (by rw [← hn]; exact List.mem_map_of_mem hp)]
  exact h5 p hp
theorem ItemsR.agree {rd rd' : Nat → Option Pg} : ∀ {l : List It} {ps : List Pr} {ns : List Nat}, (∀ n ∈ ns, rd' n = rd n) → ItemsR rd l ps ns → ItemsR rd' l ps ns
 | [], ps, ns, _, h => h
 | i :: l, ps, ns, hr, ⟨v, n1, p2, n2, h1, h2, h3, h4⟩ => ⟨v, n1, p2, n2, h1, h2, h3.agree (fun n hn => hr n (by rw [h2]; exact List.mem_append_left _ hn)), ItemsR.agree (fun n hn => hr n (by rw [h2]; exact List.mem_append_right _ hn)) h4⟩
theorem TreeR.agree {rd rd' : Nat → Option Pg} : ∀ {d n : Nat} {ps : List Pr} {ns : List Nat}, (∀ x ∈ ns, rd' x = rd x) → TreeR rd d n ps ns → TreeR rd' d n ps ns
 | 0, _, _, _, _, h => h
 | d + 1, n, ps, ns, hr, ⟨p, ms, h1, h2, h3⟩ => by
  refine ⟨p, ms, by rw [hr n (by rw [h2]; simp)]; exact h1, h2, ?_⟩
  have hm : ∀ x ∈ ms, rd' x = rd x := fun x hx => hr x (by rw [h2]; exact List.mem_cons_of_mem _ hx)
  rcases h3 with ⟨hd, l, h4, h5, h6⟩ | ⟨F, h4, h5, h6⟩
  ·exact .inl ⟨hd, l, h4, h5, h6.agree hm⟩
  ·exact .inr ⟨F, h4, h5, h6.mono fun n p1 n1 hs ht => TreeR.agree (fun x hx => hm x (hs x hx)) ht⟩
theorem ItemR.val {s : ByteArray} {i : It} {v : ByteArray} {ns : List Nat} (h : ItemR (readAt 128 s) i v ns) : valN 128 s i = some (v, ns) := by
 unfold valN
 rcases h with ⟨h1, rfl, rfl⟩ | ⟨h1, h2, tx, L, h3, h4, h5⟩
 ·rw [h1]; rfl
 ·rw [h1, if_pos rfl]
  have hb := value_back (z := 128) h3 h5 i.ln
  have hd : nthU ns 0 = i.hd := by
   cases ns with
   | nil => simp at h4
   | cons a t => simp at h4; rw [← h4]; rfl
  rw [hd, if_pos h2.symm] at hb
  exact hb
theorem ItemsR.trav {s : ByteArray} : ∀ {l : List It} {ps : List Pr} {ns L : List Nat}, ItemsR (readAt 128 s) l ps ns → (L ++ ns).Nodup → itemsT 128 s l L = (ps, some (L ++ ns))
 | [], ps, ns, L, ⟨h1, h2⟩, _ => by subst h1 h2; simp [itemsT]
 | i :: l, ps, ns, L, ⟨v, n1, p2, n2, h1, h2, h3, h4⟩, hn => by
  subst h1 h2
  rw [← List.append_assoc] at hn
  have h5 := visitL_ok (t := n1) (L := L) ((List.nodup_append.1 hn).1)
  have h6 := h4.trav hn
  simp only [itemsT, h3.val, h5, h6, List.append_assoc]
theorem ForksR.trav {T : Nat → List Pr → List Nat → Prop} {f : Nat → List Nat → Tv} (hf : ∀ n p1 n1 L, T n p1 n1 → (L ++ n1).Nodup → f n L = (p1, some (L ++ n1))) : ∀ {F : List Fk} {ps : List Pr} {ns L : List Nat}, ForksR T F ps ns → (L ++ ns).Nodup → forksT f F L = (ps, some (L ++ ns))
 | [], ps, ns, L, ⟨h1, h2⟩, _ => by subst h1 h2; simp [forksT]
 | b :: F, ps, ns, L, ⟨p1, p2, n1, n2, h1, h2, h3, h4, h5⟩, hn => by
  subst h1 h2
  rw [← List.append_assoc] at hn
  have h6 := hf _ _ _ L h3 (List.nodup_append.1 hn).1
  have h7 := ForksR.trav hf h5 hn
  simp only [forksT, h6, h7, List.append_assoc]
theorem TreeR.trav {s : ByteArray} : ∀ {d f n : Nat} {ps : List Pr} {ns L : List Nat}, d ≤ f → TreeR (readAt 128 s) d n ps ns → (L ++ ns).Nodup → trav 128 s f n L = (ps, some (L ++ ns))
 | 0, _, _, _, _, _, _, h, _ => h.elim
 | d + 1, 0, _, _, _, _, hf, _, _ => by omega
 | d + 1, f + 1, n, ps, ns, L, hf, ⟨p, ms, h1, h2, h3⟩, hn => by
  subst h2
  have hnm : n ∉ L := fun hm => (List.nodup_append.1 hn).2.2 n hm n (by simp) rfl
  have hn2 : ((L ++ [n]) ++ ms).Nodup := by simpa using hn
  have hnode : nodeN 128 s n = p.node := by unfold nodeN; rw [h1]
  simp only [Go.Proofs.YtmmjckokjmpfpaaGreat.trav, if_neg hnm, hnode]
  rcases h3 with ⟨_, l, h4, h5, h6⟩ | ⟨F, h4, h5, h6⟩
  ·rw [h4]
   simpa using h6.trav hn2
  ·rw [h4]
   simpa using ForksR.trav (T := TreeR (readAt 128 s) d) (fun n p1 n1 L ht hnd => TreeR.trav (by omega) ht hnd) h6 hn2
def Before (q : Tv) (ps : List Pr) : Prop := q.2 = none ∧ q.1 <+: ps ∧ q.1.length < ps.length
theorem ItemR.broken {s b : ByteArray} {i : It} {v : ByteArray} {ns : List Nat} {m : Nat} (h : ItemR (readAt 128 s) i v ns) (hn : ns.Nodup) (hm : m ∈ ns) (hr : ∀ n, n ≠ m → readAt 128 b n = readAt 128 s n) (hb : readAt 128 b m = none) : valN 128 b i = none := by
 unfold valN
 rcases h with ⟨h1, rfl, rfl⟩ | ⟨h1, h2, tx, L, h3, h4, h5⟩
 ·simp at hm
 ·rw [h1, if_pos rfl]
  have hno := on_nos (onL_some h3).2.2.2.2.2.2
  have hd : nthU ns 0 = i.hd := by
   cases ns with
   | nil => simp at h4
   | cons a t => simp at h4; rw [← h4]; rfl
  obtain ⟨p, hp, rfl⟩ := List.mem_map.1 (show m ∈ nosP L by rw [hno]; exact hm)
  obtain ⟨j, hj, hjp⟩ := List.mem_iff_getElem.1 hp
  have hj2 : L[j]? = some p := by rw [List.getElem?_eq_getElem hj, hjp]
  rw [← hd]
  refine value_broken h3 hj2 (fun k q hk hq => ?_) hb i.ln
  have hne : q.pg ≠ p.pg := nodup_front (by rw [hno]; exact hn) hj2 q (List.mem_of_getElem? (show (L.take j)[k]? = some q by rw [List.getElem?_take_of_lt hk]; exact hq))
  exact (hr _ hne).trans (h5 q (List.mem_of_getElem? hq))
theorem ItemsR.broken {s b : ByteArray} {m : Nat} (hr : ∀ n, n ≠ m → readAt 128 b n = readAt 128 s n) (hb : readAt 128 b m = none) : ∀ {l : List It} {ps : List Pr} {ns L : List Nat}, ItemsR (readAt 128 s) l ps ns → (L ++ ns).Nodup → m ∈ ns → Before (itemsT 128 b l L) ps
 | [], ps, ns, L, ⟨h1, h2⟩, _, hm => by subst h2; simp at hm
 | i :: l, ps, ns, L, ⟨v, n1, p2, n2, h1, h2, h3, h4⟩, hn, hm => by
  subst h1 h2
  rw [← List.append_assoc] at hn
  by_cases hm1 : m ∈ n1
  ·have := h3.broken (List.nodup_append.1 (List.nodup_append.1 hn).1).2.1 hm1 hr hb
   simp only [itemsT, this]
   exact ⟨rfl, List.nil_prefix, by simp⟩
  ·have hm2 : m ∈ n2 := by
    rcases List.mem_append.1 hm with h | h
    ·exact absurd h hm1
    ·exact h
   have h7 := (h3.agree (rd' := readAt 128 b) (fun n hn => hr n (fun e => hm1 (e ▸ hn)))).val
   have h5 := visitL_ok (t := n1) (L := L) ((List.nodup_append.1 hn).1)
   obtain ⟨e1, e2, e3⟩ := ItemsR.broken hr hb h4 hn hm2
   simp only [itemsT, h7, h5]
   exact ⟨e1, by simpa using e2, by simpa using e3⟩
theorem ForksR.broken {T : Nat → List Pr → List Nat → Prop} {f : Nat → List Nat → Tv} {m : Nat} (hf : ∀ n p1 n1 L, T n p1 n1 → (L ++ n1).Nodup → m ∉ n1 → f n L = (p1, some (L ++ n1))) (hg : ∀ n p1 n1 L, T n p1 n1 → (L ++ n1).Nodup → m ∈ n1 → Before (f n L) p1) : ∀ {F : List Fk} {ps : List Pr} {ns L : List Nat}, ForksR T F ps ns → (L ++ ns).Nodup → m ∈ ns → Before (forksT f F L) ps
 | [], ps, ns, L, ⟨h1, h2⟩, _, hm => by subst h2; simp at hm
 | b :: F, ps, ns, L, ⟨p1, p2, n1, n2, h1, h2, h3, h4, h5⟩, hn, hm => by
  subst h1 h2
  rw [← List.append_assoc] at hn
  by_cases hm1 : m ∈ n1
  ·obtain ⟨e1, e2, e3⟩ := hg _ _ _ L h3 (List.nodup_append.1 hn).1 hm1
   simp only [forksT, e1]
   exact ⟨rfl, e2.trans (List.prefix_append _ _), by simp; omega⟩
  ·have hm2 : m ∈ n2 := by
    rcases List.mem_append.1 hm with h | h
    ·exact absurd h hm1
    ·exact h
   have h6 := hf _ _ _ L h3 (List.nodup_append.1 hn).1 hm1
   obtain ⟨e1, e2, e3⟩ := ForksR.broken hf hg h5 hn hm2
   simp only [forksT, h6]
   exact ⟨e1, (List.prefix_append_right_inj _).2 e2, by simp; omega⟩
theorem TreeR.some_ {rd : Nat → Option Pg} {d n : Nat} {ps : List Pr} {ns : List Nat} (h : TreeR rd d n ps ns) : 0 < ps.length := by
 cases d with
 | zero => exact h.elim
 | succ d =>
  obtain ⟨p, ms, h1, h2, ⟨_, l, h4, h5, h6⟩ | ⟨F, h4, h5, h6⟩⟩ := h
  ·cases l with
   | nil => exact absurd rfl h5
   | cons i l => obtain ⟨v, n1, p2, n2, h7, _⟩ := h6; subst h7; simp
  ·cases F with
   | nil => exact absurd rfl h5
   | cons b F =>
    obtain ⟨p1, p2, n1, n2, h7, _, _, h8, _⟩ := h6
    subst h7
    cases p1 with
    | nil => simp at h8
    | cons _ _ => simp
theorem TreeR.broken {s b : ByteArray} {m : Nat} (hr : ∀ n, n ≠ m → readAt 128 b n = readAt 128 s n) (hb : readAt 128 b m = none) : ∀ {d f n : Nat} {ps : List Pr} {ns L : List Nat}, d ≤ f → TreeR (readAt 128 s) d n ps ns → (L ++ ns).Nodup → m ∈ ns → Before (Go.Proofs.YtmmjckokjmpfpaaGreat.trav 128 b f n L) ps
 | 0, _, _, _, _, _, _, h, _, _ => h.elim
 | d + 1, 0, _, _, _, _, hf, _, _, _ => by omega
 | d + 1, f + 1, n, ps, ns, L, hf, h0@⟨p, ms, h1, h2, h3⟩, hn, hm => by
  subst h2
  have hnm : n ∉ L := fun hm => (List.nodup_append.1 hn).2.2 n hm n (by simp) rfl
  have hn2 : ((L ++ [n]) ++ ms).Nodup := by simpa using hn
  by_cases hmn : m = n
  ·subst hmn
   have hnode : nodeN 128 b m = .none := by unfold nodeN; rw [hb]
   simp only [Go.Proofs.YtmmjckokjmpfpaaGreat.trav, if_neg hnm, hnode]
   exact ⟨rfl, List.nil_prefix, TreeR.some_ (rd := readAt 128 s) (d := d + 1) h0⟩
  ·have hm2 : m ∈ ms := by
    rcases List.mem_cons.1 hm with h | h
    ·exact absurd h hmn
    ·exact h
   have hnode : nodeN 128 b n = p.node := by unfold nodeN; rw [hr n (fun e => hmn e.symm), h1]
   simp only [Go.Proofs.YtmmjckokjmpfpaaGreat.trav, if_neg hnm, hnode]
   rcases h3 with ⟨_, l, h4, h5, h6⟩ | ⟨F, h4, h5, h6⟩
   ·rw [h4]
    exact h6.broken hr hb hn2 hm2
   ·rw [h4]
    exact ForksR.broken (T := TreeR (readAt 128 s) d) (fun n p1 n1 L ht hnd hmm => TreeR.trav (by omega) (ht.agree (fun x hx => hr x (fun e => hmm (e ▸ hx)))) hnd) (fun n p1 n1 L ht hnd hmm => TreeR.broken hr hb (by omega) ht hnd hmm) h6 hn2 hm2
end Go.Proofs.YtmmjckokjmpfpaaGreat

namespace Go.Proofs.YtmmjckokjmpfpaaGreat
open Go.RowKit
open Go.Lib hiding intOf

theorem readAt_put {z c w : Nat} {img b : ByteArray} (hg : goodSize z = true) (hl : img.size = c * z) (hb : b.size = z) (hw : w < c) (hno : blockOk z w b = false) (n : Nat) :
  readAt z (writeB z w b img) n = if n = w then none else readAt z img n := by
 have hgp := good_pos hg
 obtain ⟨z', hzz, hz1, _⟩ := good_nat hg
 have hz0 : 0 < z := by omega
 have hil : img.data.toList.length = c * z := by rw [size_list, hl]
 have hbl : b.data.toList.length = z := by rw [size_list, hb]
 have hws : (writeB z w b img).size = c * z := by rw [← size_list, writeB_list, bWrite_pages z w c _ _ hil hbl, Nat.max_eq_left (by omega)]
 have hd1 : (writeB z w b img).size / z = c := by rw [hws, Nat.mul_div_cancel _ hz0]
 have hd2 : img.size / z = c := by rw [hl, Nat.mul_div_cancel _ hz0]
 have hzn : ((z : Nat) : Int).toNat = z := by omega
 unfold readAt
 rw [hzn, hd1, hd2, hg]
 by_cases hn : n < c
 ·have hblk : blkOf z (writeB z w b img) n = if n = w then b else blkOf z img n := by
   apply bytes_ext
   rw [blkOf_list, writeB_list, pieceL_write z w c n _ _ hil hbl (by omega)]
   split
   ·rfl
   ·first | rw [blkOf_list] | rw [if_pos hn, blkOf_list]
  rw [hblk]
  by_cases h1 : n = w
  ·rw [if_pos h1, if_pos h1, h1, hno]
   simp
  ·rw [if_neg h1, if_neg h1]
 ·rw [decide_eq_false hn, if_neg (by omega : ¬ n = w)]
  simp
theorem readAt_ok {z n : Nat} {img : ByteArray} {p : Pg} (h : readAt z img n = some p) : blockOk z n (blkOf z img n) = true := by
 unfold readAt at h
 rw [Int.toNat_natCast] at h
 split at h
 ·rename_i hc
  simp only [Bool.and_eq_true] at hc
  exact hc.2.2
 ·cases h

theorem onL_yesN {tx : Nat} {ps : List Nat} {v : ByteArray} (h2 : 0 < v.size) (h3 : v.size ≤ 4096) (h4 : (partsL 128 v).length = ps.length) (h5 : fineL ps = true) (h6 : tx ≤ 4611686018427387904) : onL 128 tx ps v = some ((List.range ps.length).map (onPg 128 tx ps v)) := by
 unfold onL
 rw [show goodSize 128 = true from rfl, decide_eq_true h2, decide_eq_true h3, decide_eq_true h4, h5, decide_eq_true h6]
 rfl
end Go.Proofs.YtmmjckokjmpfpaaGreat

namespace Go.Proofs.YtmmjckokjmpfpaaGreat
open Go.RowKit
open Go.Lib hiding intOf

theorem runW_at {f n i : Nat} (hi : i < n) (h : f + n ≤ 1000000) : nthU (runW f n) i = f + i := nthU_of (by unfold runW; rw [List.getElem?_map, List.getElem?_range hi]; show some ((f + i) % 4294967296) = _; rw [Nat.mod_eq_of_lt (by omega)])
theorem fine_run {f n : Nat} (hf : 2 ≤ f) (h : f + n ≤ 1000000) : fineL (runW f n) = true := by
 refine fineL_iff.2 fun j hj => ?_
 rw [runW_len] at hj
 rw [runW_at hj h]
 refine ⟨numB_iff.2 (by omega), fun m hm => ?_⟩
 rw [runW_at (by omega) h]
 omega
end Go.Proofs.YtmmjckokjmpfpaaGreat

namespace Go.Proofs.YtmmjckokjmpfpaaGreat
open Go.RowKit
open Go.Lib hiding intOf

theorem len8 {z n tx : Nat} {l : List It} (h : mayP8 z n tx l = true) : l.length ≤ 65535 := by
 obtain ⟨hall, hl0, hg, hroom, hnb, htx⟩ := mayP8_parts h
 have h1 := three_le l
 have h2 := good_pos hg
 omega
theorem may_of_8 {z n tx : Nat} {l : List It} (h : mayP8 z n tx l = true) : mayPg z 4 l.length n 0 tx (itemBody z l) = true := by
 have hlen := len8 h
 obtain ⟨hall, hl0, hg, hroom, hnb, htx⟩ := mayP8_parts h
 have hz := itemBody_size z l hroom.1
 have hgp := good_pos hg
 unfold mayPg
 rw [hg, hz]
 simp
 omega
theorem len7 (l : List Fk) : 5 * l.length ≤ sizeF l := by
 induction l with
 | nil => simp [sizeF]
 | cons b l ih => simp only [sizeF, List.length_cons]; omega
theorem may_of_7 {z n tx : Nat} {l : List Fk} (h : mayP7 z n tx l = true) : mayPg z 3 l.length n 0 tx (forkBody z l) = true := by
 have hlen := len7 l
 obtain ⟨hall, hl0, hg, hroom, hnb, htx⟩ := mayP7_parts h
 have hz := forkBody_size z l hroom.1
 have hgp := good_pos hg
 unfold mayPg
 rw [hg, hz]
 simp
 omega
theorem leaf_node {n : Nat} {l : List It} (h : mayP8 128 n 3 l = true) : (leafPg 128 n l).node = .lf l := by
 have h1 := readI_page (z := 128) h
 have h0 : readF 4 l.length n 0 3 (itemBody 128 l) = none := by
  cases hr : readF 4 l.length n 0 3 (itemBody 128 l) with
  | none => rfl
  | some F => have := (readF_some hr).2.1; omega
 unfold Pg.node leafPg
 simp only [h0, h1]
theorem br_node {n : Nat} {l : List Fk} (h : mayP7 128 n 3 l = true) : (brPg 128 n l).node = .br l := by
 have h1 := readF_page (z := 128) h
 unfold Pg.node brPg
 simp only [h1]
theorem runW_range {f n : Nat} (h : f + n ≤ 1000000) : runW f n = List.range' f n := by
 unfold runW
 rw [List.range'_eq_map_range]
 refine List.map_congr_left fun i hi => ?_
 have := List.mem_range.1 hi
 show (f + i) % 4294967296 = f + i
 omega
theorem need_few {n : Nat} (h : n ≤ 4096) : needN 128 (n : Int) ≤ 40 := by
 unfold needN
 split
 ·show ((n : Int).toNat - 1) / 104 + 1 ≤ 40
  omega
 ·omega
theorem pages_yes {f : Nat} {v : ByteArray} (h1 : 0 < v.size) (h2 : v.size ≤ 4096) (hf : 2 ≤ f) (hb : f ≤ 900000) : ∃ C, pagesL 128 3 f v = some C ∧ onL 128 3 (runW f (needN 128 v.size)) v = some C ∧ nosP C = List.range' f C.length ∧ C.length ≤ 40 ∧ 0 < C.length := by
 have hnf := need_few h2
 have hps : (runW f (needN 128 v.size)).length = needN 128 v.size := runW_len _ _
 have hon := onL_yesN (tx := 3) (ps := runW f (needN 128 v.size)) h1 h2 (by rw [parts_need, hps]) (fine_run hf (by omega)) (by omega)
 refine ⟨_, hon, hon, ?_, ?_, ?_⟩
 ·rw [on_nos rfl, runW_range (by omega), List.length_map, List.length_range, List.length_range']
 ·rw [List.length_map, List.length_range, hps]; exact hnf
 ·rw [List.length_map, List.length_range, hps]
  unfold needN
  rw [show goodSize 128 = true from rfl, decide_eq_true (show (1 : Int) ≤ v.size by omega)]
  simp
theorem nos_append (a b : List Pg) : nosP (a ++ b) = nosP a ++ nosP b := by simp [nosP]
def Num (L : List Pg) : Prop := nosP L = List.range' 2 L.length
theorem Num.append {L C : List Pg} (h : Num L) (hc : nosP C = List.range' (2 + L.length) C.length) : Num (L ++ C) := by
 unfold Num at h ⊢
 rw [nos_append, h, hc, List.length_append, ← List.range'_append_1]
theorem itemY_is {L : List Pg} {p : Pr} (hL : Num L) (hv : p.vl.size ≤ 4096) (hb : L.length ≤ 100000) : ∃ C, (itemY 128 L p).1 = L ++ C ∧ Num (L ++ C) ∧ C.length ≤ 40 ∧ (∀ q ∈ C, mayPg 128 q.kd q.ct q.pg q.lk q.tx q.bd = true) ∧ (itemY 128 L p).2.ky = p.ky ∧ ∀ rd : Nat → Option Pg, (∀ q ∈ C, rd q.pg = some q) → ItemR rd (itemY 128 L p).2 p.vl (nosP C) := by
 by_cases hin : inB 128 p.vl.size = true
 ·refine ⟨[], by unfold itemY; rw [if_pos hin]; simp, by simpa using hL, by simp, by simp, by unfold itemY; rw [if_pos hin], fun rd _ => .inl ?_⟩
  unfold itemY
  rw [if_pos hin]
  exact ⟨rfl, rfl, rfl⟩
 ·have h1 : 0 < p.vl.size := by
   rcases Nat.eq_zero_or_pos p.vl.size with h0 | h0
   ·rw [h0] at hin; exact absurd (by decide) hin
   ·exact h0
  obtain ⟨C, e1, e2, e3, e4, e5⟩ := pages_yes (f := 2 + L.length) h1 hv (by omega) (by omega)
  have hi : itemY 128 L p = (L ++ C, ⟨p.ky, ⟨#[]⟩, true, p.vl.size, 2 + L.length⟩) := by
   unfold itemY
   rw [if_neg hin]
   show (L ++ (pagesL 128 3 (2 + L.length) p.vl).getD [], _) = _
   rw [e1]
   rfl
  rw [hi]
  refine ⟨C, rfl, hL.append e3, e4, on_may (z := 128) e2, rfl, fun rd hr => .inr ⟨rfl, rfl, 3, C, ?_, ?_, hr⟩⟩
  ·rw [on_nos (onL_some (z := 128) e2).2.2.2.2.2.2]; exact e2
  ·rw [e3]
   cases hc : C.length with
   | zero => omega
   | succ k => rfl
theorem itemsY_is : ∀ {l : List Pr} {L : List Pg}, Num L → (∀ p ∈ l, p.vl.size ≤ 4096) → L.length + 40 * l.length ≤ 100000 → ∃ C, (itemsY 128 L l).1 = L ++ C ∧ Num (L ++ C) ∧ C.length ≤ 40 * l.length ∧ (∀ q ∈ C, mayPg 128 q.kd q.ct q.pg q.lk q.tx q.bd = true) ∧ (itemsY 128 L l).2.map (·.ky) = l.map (·.ky) ∧ ∀ rd : Nat → Option Pg, (∀ q ∈ C, rd q.pg = some q) → ItemsR rd (itemsY 128 L l).2 l (nosP C)
 | [], L, hL, _, _ => ⟨[], by simp [itemsY], by simpa using hL, by simp, by simp, rfl, fun rd _ => ⟨rfl, rfl⟩⟩
 | p :: l, L, hL, hv, hb => by
  simp only [List.length_cons] at hb
  obtain ⟨C, e1, e2, e3, e4, e5, e6⟩ := itemY_is hL (hv p (by simp)) (by omega)
  obtain ⟨D, f1, f2, f3, f4, f5, f6⟩ := itemsY_is (l := l) (L := L ++ C) e2 (fun q hq => hv q (List.mem_cons_of_mem _ hq)) (by rw [List.length_append]; omega)
  refine ⟨C ++ D, ?_, by rw [← List.append_assoc]; exact f2, by simp only [List.length_append, List.length_cons]; omega, ?_, ?_, ?_⟩
  ·simp only [itemsY, e1, f1, List.append_assoc]
  ·intro q hq
   rcases List.mem_append.1 hq with h | h
   ·exact e4 q h
   ·exact f4 q h
  ·simp only [itemsY, List.map_cons, e5, e1, f5]
  ·intro rd hr
   have h1 := e6 rd (fun q hq => hr q (List.mem_append_left _ hq))
   have h2 := f6 rd (fun q hq => hr q (List.mem_append_right _ hq))
   simp only [itemsY, e1]
   exact ⟨p.vl, nosP C, l, nosP D, by rw [e5], by rw [nos_append], h1, h2⟩
theorem ItemsR.split {rd : Nat → Option Pg} : ∀ {a b : List It} {ps : List Pr} {ns : List Nat}, ItemsR rd (a ++ b) ps ns → ∃ p1 p2 n1 n2, ps = p1 ++ p2 ∧ ns = n1 ++ n2 ∧ ItemsR rd a p1 n1 ∧ ItemsR rd b p2 n2
 | [], b, ps, ns, h => ⟨[], ps, [], ns, rfl, rfl, ⟨rfl, rfl⟩, h⟩
 | i :: a, b, ps, ns, ⟨v, n1, p2, n2, h1, h2, h3, h4⟩ => by
  obtain ⟨q1, q2, m1, m2, e1, e2, e3, e4⟩ := ItemsR.split h4
  subst h1 h2 e1 e2
  exact ⟨_ :: q1, q2, n1 ++ m1, m2, rfl, by rw [List.append_assoc], ⟨v, n1, q1, m1, rfl, rfl, h3, e3⟩, e4⟩
theorem ForksR.split {T : Nat → List Pr → List Nat → Prop} : ∀ {a b : List Fk} {ps : List Pr} {ns : List Nat}, ForksR T (a ++ b) ps ns → ∃ p1 p2 n1 n2, ps = p1 ++ p2 ∧ ns = n1 ++ n2 ∧ ForksR T a p1 n1 ∧ ForksR T b p2 n2
 | [], b, ps, ns, h => ⟨[], ps, [], ns, rfl, rfl, ⟨rfl, rfl⟩, h⟩
 | i :: a, b, ps, ns, ⟨p1, p2, n1, n2, h1, h2, h3, h4, h5⟩ => by
  obtain ⟨q1, q2, m1, m2, e1, e2, e3, e4⟩ := ForksR.split h5
  subst h1 h2 e1 e2
  exact ⟨p1 ++ q1, q2, n1 ++ m1, m2, by rw [List.append_assoc], by rw [List.append_assoc], ⟨p1, q1, n1, m1, rfl, rfl, h3, h4, e3⟩, e4⟩
theorem leaves_tree {rd : Nat → Option Pg} : ∀ {parts : List (List It)} {N : Nat} {ps : List Pr} {ns : List Nat}, ItemsR rd parts.flatten ps ns → (∀ q ∈ parts, q ≠ []) → leafMay 128 N parts = true → (∀ q ∈ leafPgs 128 N parts, rd q.pg = some q) →
  ∃ ms, ForksR (TreeR rd 1) (leafFks N parts) ps ms ∧ ms.Perm (nosP (leafPgs 128 N parts) ++ ns)
 | [], N, ps, ns, ⟨h1, h2⟩, _, _, _ => ⟨[], ⟨h1, rfl⟩, by subst h2; exact List.Perm.refl _⟩
 | p :: parts, N, ps, ns, h, hne, hm, hr => by
  rw [List.flatten_cons] at h
  obtain ⟨p1, p2, n1, n2, h1, h2, h3, h4⟩ := h.split
  simp only [leafMay, Bool.and_eq_true] at hm
  obtain ⟨ms, e1, e2⟩ := leaves_tree h4 (fun q hq => hne q (List.mem_cons_of_mem _ hq)) hm.2 (fun q hq => hr q (by unfold leafPgs; exact List.mem_cons_of_mem _ hq))
  have hp := hne p (by simp)
  have hrd : rd N = some (leafPg 128 N p) := hr (leafPg 128 N p) (by unfold leafPgs; simp)
  subst h1 h2
  refine ⟨(N :: n1) ++ ms, ⟨p1, p2, N :: n1, ms, rfl, rfl, ⟨leafPg 128 N p, n1, hrd, rfl, .inl ⟨rfl, p, leaf_node hm.1, hp, h3⟩⟩, ?_, e1⟩, ?_⟩
  ·cases p with
   | nil => exact absurd rfl hp
   | cons i t =>
    obtain ⟨v, m1, q2, m2, f1, _⟩ := h3
    subst f1
    rfl
  ·show (N :: (n1 ++ ms)).Perm (N :: (nosP (leafPgs 128 (N + 1) parts) ++ (n1 ++ n2)))
   refine List.Perm.cons N ?_
   refine (List.Perm.append_left n1 e2).trans ?_
   rw [← List.append_assoc, ← List.append_assoc]
   exact List.Perm.append_right n2 List.perm_append_comm
theorem branches_tree {rd : Nat → Option Pg} {d : Nat} : ∀ {parts : List (List Fk)} {N : Nat} {ps : List Pr} {ns : List Nat}, ForksR (TreeR rd d) parts.flatten ps ns → (∀ q ∈ parts, q ≠ []) → brMay 128 N parts = true → (∀ q ∈ brPgs 128 N parts, rd q.pg = some q) →
  ∃ ms, ForksR (TreeR rd (d + 1)) (brFks N parts) ps ms ∧ ms.Perm (nosP (brPgs 128 N parts) ++ ns)
 | [], N, ps, ns, ⟨h1, h2⟩, _, _, _ => ⟨[], ⟨h1, rfl⟩, by subst h2; exact List.Perm.refl _⟩
 | p :: parts, N, ps, ns, h, hne, hm, hr => by
  rw [List.flatten_cons] at h
  obtain ⟨p1, p2, n1, n2, h1, h2, h3, h4⟩ := h.split
  simp only [brMay, Bool.and_eq_true] at hm
  obtain ⟨ms, e1, e2⟩ := branches_tree h4 (fun q hq => hne q (List.mem_cons_of_mem _ hq)) hm.2 (fun q hq => hr q (by unfold brPgs; exact List.mem_cons_of_mem _ hq))
  have hp := hne p (by simp)
  have hrd : rd N = some (brPg 128 N p) := hr (brPg 128 N p) (by unfold brPgs; simp)
  subst h1 h2
  refine ⟨(N :: n1) ++ ms, ⟨p1, p2, N :: n1, ms, rfl, rfl, ⟨brPg 128 N p, n1, hrd, rfl, .inr ⟨p, br_node hm.1, hp, h3⟩⟩, ?_, e1⟩, ?_⟩
  ·cases p with
   | nil => exact absurd rfl hp
   | cons i t =>
    obtain ⟨q1, q2, m1, m2, f1, f2, f3, f4, f5⟩ := h3
    subst f1
    show (q1 ++ q2).head?.map (·.ky) = some i.nm
    cases q1 with
    | nil => simp at f4
    | cons a b => simpa using f4
  ·show (N :: (n1 ++ ms)).Perm (N :: (nosP (brPgs 128 (N + 1) parts) ++ (n1 ++ n2)))
   refine List.Perm.cons N ?_
   refine (List.Perm.append_left n1 e2).trans ?_
   rw [← List.append_assoc, ← List.append_assoc]
   exact List.Perm.append_right n2 List.perm_append_comm
theorem leafPgs_nos (z : Nat) : ∀ (parts : List (List It)) (N : Nat), nosP (leafPgs z N parts) = List.range' N parts.length
 | [], N => rfl
 | p :: t, N => by
  show N :: nosP (leafPgs z (N + 1) t) = _
  rw [leafPgs_nos z t (N + 1)]
  rfl
theorem brPgs_nos (z : Nat) : ∀ (parts : List (List Fk)) (N : Nat), nosP (brPgs z N parts) = List.range' N parts.length
 | [], N => rfl
 | p :: t, N => by
  show N :: nosP (brPgs z (N + 1) t) = _
  rw [brPgs_nos z t (N + 1)]
  rfl
theorem leafPgs_may : ∀ {parts : List (List It)} {N : Nat}, leafMay 128 N parts = true → ∀ q ∈ leafPgs 128 N parts, mayPg 128 q.kd q.ct q.pg q.lk q.tx q.bd = true
 | [], N, _, q, hq => by simp [leafPgs] at hq
 | p :: t, N, hm, q, hq => by
  simp only [leafMay, Bool.and_eq_true] at hm
  unfold leafPgs at hq
  rcases List.mem_cons.1 hq with rfl | hq
  ·exact may_of_8 (z := 128) hm.1
  ·exact leafPgs_may hm.2 q hq
theorem brPgs_may : ∀ {parts : List (List Fk)} {N : Nat}, brMay 128 N parts = true → ∀ q ∈ brPgs 128 N parts, mayPg 128 q.kd q.ct q.pg q.lk q.tx q.bd = true
 | [], N, _, q, hq => by simp [brPgs] at hq
 | p :: t, N, hm, q, hq => by
  simp only [brMay, Bool.and_eq_true] at hm
  unfold brPgs at hq
  rcases List.mem_cons.1 hq with rfl | hq
  ·exact may_of_7 (z := 128) hm.1
  ·exact brPgs_may hm.2 q hq
theorem cutG_half {α : Type} {sz : List α → Nat} {room : Nat} {l0 : List α} (h2 : ∀ l' : List α, l'.length ≤ 2 → (∀ x ∈ l', x ∈ l0) → sz l' ≤ room) : ∀ (d : Nat) (l : List α), (∀ x ∈ l, x ∈ l0) → 2 * (cutG sz room d l).length ≤ l.length + 1
 | 0, l, _ => by simp [cutG]
 | d + 1, l, hl => by
  by_cases h0 : l = []
  ·subst h0; simp [cutG]
  ·have hpos : 0 < l.length := List.length_pos_iff.2 h0
   have ih := cutG_half h2 d (l.drop (growT sz room l l.length 1)) (fun x hx => hl x (List.mem_of_mem_drop hx))
   have hg1 := growT_ge (sz := sz) (room := room) l l.length 1
   rw [List.length_drop] at ih
   rw [cutG_cons h0, List.length_cons]
   by_cases h1 : l.length = 1
   ·have hn : l.drop (growT sz room l l.length 1) = [] := List.drop_eq_nil_of_le (by omega)
    rw [hn, cutG_nil]
    simp
    omega
   ·have h3 : 2 ≤ growT sz room l l.length 1 := by
     obtain ⟨m, hm⟩ : ∃ m, l.length = m + 1 := ⟨l.length - 1, by omega⟩
     rw [hm, growT_step l ⟨by omega, h2 _ (by rw [List.length_take]; omega) (fun x hx => hl x (List.mem_of_mem_take hx))⟩]
     exact growT_ge _ _ _
    omega
theorem brMay_keys : ∀ {parts : List (List Fk)} {N : Nat}, brMay 128 N parts = true → ∀ b ∈ parts.flatten, b.nm.size ≤ 40
 | [], N, _, b, hb => by simp at hb
 | p :: t, N, hm, b, hb => by
  simp only [brMay, Bool.and_eq_true] at hm
  rw [List.flatten_cons] at hb
  rcases List.mem_append.1 hb with h | h
  ·have hall := (mayP7_parts hm.1).1
   obtain ⟨i, hi, hib⟩ := List.mem_iff_getElem.1 h
   rw [allOkF, List.all_eq_true] at hall
   have := hall i (List.mem_range.2 hi)
   unfold okAtF at this
   rw [List.getElem?_eq_getElem hi, hib] at this
   simp only [Bool.and_eq_true] at this
   have h3 := this.1
   have h4 : b.nm.size ≤ 40 ∧ numB b.rt = true := by simpa [okFk, keyF] using h3
   exact h4.1
  ·exact brMay_keys hm.2 b h
theorem two_fit {F : List Fk} (h : ∀ b ∈ F, b.nm.size ≤ 40) : ∀ l' : List Fk, l'.length ≤ 2 → (∀ x ∈ l', x ∈ F) → sizeF l' ≤ 104
 | [], _, _ => by simp [sizeF]
 | [a], _, hx => by have := h a (hx a (by simp)); simp only [sizeF]; omega
 | [a, b], _, hx => by have := h a (hx a (by simp)); have := h b (hx b (by simp)); simp only [sizeF]; omega
 | a :: b :: c :: t, hl, _ => by simp at hl
theorem levels_keep {q : Pg} : ∀ {f : Nat} {L : List Pg} {F : List Fk}, q ∈ L → q ∈ (levelsY 128 f L F).1
 | 0, L, F, h => h
 | f + 1, L, F, h => by
  unfold levelsY
  split
  ·exact h
  ·exact levels_keep (List.mem_append_left _ h)
theorem levels_tree {rd : Nat → Option Pg} : ∀ {f d k : Nat} {L : List Pg} {F : List Fk} {ps : List Pr} {ns : List Nat}, ForksR (TreeR rd d) F ps ns → ns.Perm (nosP L) → Num L → (∀ q ∈ L, mayPg 128 q.kd q.ct q.pg q.lk q.tx q.bd = true) → LevOk f L F → F.length ≤ 2 ^ k → (∀ q ∈ (levelsY 128 f L F).1, rd q.pg = some q) →
  ∃ d' ns', d' ≤ d + k ∧ d ≤ d' ∧ (levelsY 128 f L F).2.length ≤ 1 ∧ ForksR (TreeR rd d') (levelsY 128 f L F).2 ps ns' ∧ ns'.Perm (nosP (levelsY 128 f L F).1) ∧ Num (levelsY 128 f L F).1 ∧ (∀ q ∈ (levelsY 128 f L F).1, mayPg 128 q.kd q.ct q.pg q.lk q.tx q.bd = true)
 | 0, d, k, L, F, ps, ns, h, hp, hn, hm, hv, hk, hr => ⟨d, ns, by omega, by omega, hv.1, h, hp, hn, hm⟩
 | f + 1, d, k, L, F, ps, ns, h, hp, hn, hm, hv, hk, hr => by
  by_cases h1 : F.length ≤ 1
  ·rw [levelsY_one h1] at hr ⊢
   exact ⟨d, ns, by omega, by omega, h1, h, hp, hn, hm⟩
  ·rcases hv with hv | ⟨hv1, hv2, hv3, hv4, hv5, hv6⟩
   ·exact absurd hv.1 h1
   rw [levelsY_more hv1] at hr ⊢
   have hfl : (cutG sizeF 104 F.length F).flatten = F := cutG_flat _ _ (Nat.le_refl _)
   have hkeys := brMay_keys hv2
   rw [hfl] at hkeys
   have hhalf := cutG_half (two_fit hkeys) F.length F (fun x hx => hx)
   obtain ⟨k', rfl⟩ : ∃ k', k = k' + 1 := by
    cases k with
    | zero => simp at hk; omega
    | succ k => exact ⟨k, rfl⟩
   have hk' : (brFks (2 + L.length) (cutG sizeF 104 F.length F)).length ≤ 2 ^ k' := by
    rw [brFks_len]
    rw [Nat.pow_succ] at hk
    omega
   have hrb : ∀ q ∈ brPgs 128 (2 + L.length) (cutG sizeF 104 F.length F), rd q.pg = some q := fun q hq => hr q (levels_keep (List.mem_append_right _ hq))
   obtain ⟨ms, e1, e2⟩ := branches_tree (by rw [hfl]; exact h) (cutG_ne _ _) hv2 hrb
   obtain ⟨d', ns', g1, g2, g3⟩ := levels_tree e1 (e2.trans (by rw [nos_append]; exact (List.perm_append_comm).trans (List.Perm.append_right _ hp))) (hn.append (by rw [brPgs_nos, brPgs_len])) (fun q hq => by
    rcases List.mem_append.1 hq with h | h
    ·exact hm q h
    ·exact brPgs_may hv2 q h) hv6 hk' hr
   exact ⟨d', ns', by omega, by omega, g3⟩
end Go.Proofs.YtmmjckokjmpfpaaGreat

