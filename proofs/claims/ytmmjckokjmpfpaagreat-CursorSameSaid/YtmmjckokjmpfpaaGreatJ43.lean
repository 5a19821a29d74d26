/-
  Texts that the main proof rests on, put together: TreeR, CnMath2, CnMath3. No statement is proved here.
-/
import Derived.Test.YtmmjckokjmpfpaaGreatJ19
import Derived.Test.YtmmjckokjmpfpaaGreatJ15
import Derived.Test.YtmmjckokjmpfpaaGreatJ40
import Derived.Test.YtmmjckokjmpfpaaGreatJ18
set_option linter.unusedVariables false
set_option linter.unusedSimpArgs false
namespace Go.Proofs.YtmmjckokjmpfpaaGreat
open Go.RowKit
open Go.Lib hiding intOf

def ItemR (rd : Nat → Option Pg) (i : It) (v : ByteArray) (ns : List Nat) : Prop :=
 (i.ov = false ∧ v = i.vl ∧ ns = []) ∨
 (i.ov = true ∧ i.ln = v.size ∧ ∃ (tx : Nat) (L : List Pg), onL 128 tx ns v = some L ∧ ns.head? = some i.hd ∧ ∀ p ∈ L, rd p.pg = some p)
def ItemsR (rd : Nat → Option Pg) : List It → List Pr → List Nat → Prop
 | [], ps, ns => ps = [] ∧ ns = []
 | i :: t, ps, ns => ∃ v n1 p2 n2, ps = ⟨i.ky, v⟩ :: p2 ∧ ns = n1 ++ n2 ∧ ItemR rd i v n1 ∧ ItemsR rd t p2 n2
def ForksR (T : Nat → List Pr → List Nat → Prop) : List Fk → List Pr → List Nat → Prop
 | [], ps, ns => ps = [] ∧ ns = []
 | b :: t, ps, ns => ∃ p1 p2 n1 n2, ps = p1 ++ p2 ∧ ns = n1 ++ n2 ∧ T b.rt p1 n1 ∧ p1.head?.map (·.ky) = some b.nm ∧ ForksR T t p2 n2
def TreeR (rd : Nat → Option Pg) : Nat → Nat → List Pr → List Nat → Prop
 | 0, _, _, _ => False
 | d + 1, n, ps, ns => ∃ p ms, rd n = some p ∧ ns = n :: ms ∧ ((d = 0 ∧ ∃ l, p.node = .lf l ∧ l ≠ [] ∧ ItemsR rd l ps ms) ∨ ∃ F, p.node = .br F ∧ F ≠ [] ∧ ForksR (TreeR rd d) F ps ms)

theorem ForksR.mono {T T' : Nat → List Pr → List Nat → Prop} : ∀ {F : List Fk} {ps : List Pr} {ns : List Nat}, (∀ n p1 n1, (∀ x ∈ n1, x ∈ ns) → T n p1 n1 → T' n p1 n1) → ForksR T F ps ns → ForksR T' F ps ns
 | [], ps, ns, _, h => h
 | b :: F, ps, ns, hT, ⟨p1, p2, n1, n2, h1, h2, h3, h4, h5⟩ => ⟨p1, p2, n1, n2, h1, h2, hT _ _ _ (fun x hx => by rw [h2]; exact List.mem_append_left _ hx) h3, h4, ForksR.mono (fun n q1 m1 hm => hT n q1 m1 (fun x hx => by rw [h2]; exact List.mem_append_right _ (hm x hx))) h5⟩
theorem ItemR.agree {rd rd' : Nat → Option Pg} {i : It} {v : ByteArray} {ns : List Nat} (hr : ∀ n ∈ ns, rd' n = rd n) (h : ItemR rd i v ns) : ItemR rd' i v ns := by
 rcases h with h | ⟨h1, h2, tx, L, h3, h4, h5⟩
 ·exact .inl h
 ·refine .inr ⟨h1, h2, tx, L, h3, h4, fun p hp => ?_⟩
  have hn := on_nos (onL_some h3).2.2.2.2.2.2
  rw [hr p.pg (by rw [← hn]; exact List.mem_map_of_mem hp)]
  exact h5 p hp
theorem ItemsR.agree {rd rd' : Nat → Option Pg} : ∀ {l : List It} {ps : List Pr} {ns : List Nat}, (∀ n ∈ ns, rd' n = rd n) → ItemsR rd l ps ns → ItemsR rd' l ps ns
 | [], ps, ns, _, h => h
 | i :: l, ps, ns, hr, ⟨v, n1, p2, n2, h1, h2, h3, h4⟩ => ⟨v, n1, p2, n2, h1, h2, h3.agree (fun n hn => hr n (by rw [h2]; exact List.mem_append_left _ hn)), ItemsR.agree (fun n hn => hr n (by rw [h2]; exact List.mem_append_right _ hn)) h4⟩
theorem TreeR.agree {rd rd' : Nat → Option Pg} : ∀ {d n : Nat} {ps : List Pr} {ns : List Nat}, (∀ x ∈ ns, rd' x = rd x) → TreeR rd d n ps ns → TreeR rd' d n ps ns
 | 0, _, _, _, _, h => h
 | d + 1, n, ps, ns, hr, ⟨p, ms, h1, h2, h3⟩ => by
  refine ⟨p, ms, by rw [hr n (by rw [h2]; simp)]; exact h1, h2, ?_⟩
  have hm : ∀ x ∈ ms, rd' x = rd x := fun x hx => hr x (by rw [h2]; exact List.mem_cons_of_mem _ hx)
  rcases h3 with ⟨hd, l, h4, h5, h6⟩ | ⟨F, h4, h5, h6⟩
  ·exact .inl ⟨hd, l, h4, h5, h6.agree hm⟩
  ·exact .inr ⟨F, h4, h5, h6.mono fun n p1 n1 hs ht => TreeR.agree (fun x hx => hm x (hs x hx)) ht⟩
theorem ItemR.val {s : ByteArray} {i : It} {v : ByteArray} {ns : List Nat} (h : ItemR (readAt 128 s) i v ns) : valN 128 s i = some (v, ns) := by
 unfold valN
 rcases h with ⟨h1, rfl, rfl⟩ | ⟨h1, h2, tx, L, h3, h4, h5⟩
 ·rw [h1]; rfl
 ·rw [h1, if_pos rfl]
  have hb := value_back (z := 128) h3 h5 i.ln
  have hd : nthU ns 0 = i.hd := by
   cases ns with
   | nil => simp at h4
   | cons a t => simp at h4; rw [← h4]; rfl
  rw [hd, if_pos h2.symm] at hb
  exact hb
theorem ItemsR.trav {s : ByteArray} : ∀ {l : List It} {ps : List Pr} {ns L : List Nat}, ItemsR (readAt 128 s) l ps ns → (L ++ ns).Nodup → itemsT 128 s l L = (ps, some (L ++ ns))
 | [], ps, ns, L, ⟨h1, h2⟩, _ => by subst h1 h2; simp [itemsT]
 | i :: l, ps, ns, L, ⟨v, n1, p2, n2, h1, h2, h3, h4⟩, hn => by
  subst h1 h2
  rw [← List.append_assoc] at hn
  have h5 := visitL_ok (t := n1) (L := L) ((List.nodup_append.1 hn).1)
  have h6 := h4.trav hn
  simp only [itemsT, h3.val, h5, h6, List.append_assoc]
theorem ForksR.trav {T : Nat → List Pr → List Nat → Prop} {f : Nat → List Nat → Tv} (hf : ∀ n p1 n1 L, T n p1 n1 → (L ++ n1).Nodup → f n L = (p1, some (L ++ n1))) : ∀ {F : List Fk} {ps : List Pr} {ns L : List Nat}, ForksR T F ps ns → (L ++ ns).Nodup → forksT f F L = (ps, some (L ++ ns))
 | [], ps, ns, L, ⟨h1, h2⟩, _ => by subst h1 h2; simp [forksT]
 | b :: F, ps, ns, L, ⟨p1, p2, n1, n2, h1, h2, h3, h4, h5⟩, hn => by
  subst h1 h2
  rw [← List.append_assoc] at hn
  have h6 := hf _ _ _ L h3 (List.nodup_append.1 hn).1
  have h7 := ForksR.trav hf h5 hn
  simp only [forksT, h6, h7, List.append_assoc]
theorem TreeR.trav {s : ByteArray} : ∀ {d f n : Nat} {ps : List Pr} {ns L : List Nat}, d ≤ f → TreeR (readAt 128 s) d n ps ns → (L ++ ns).Nodup → trav 128 s f n L = (ps, some (L ++ ns))
 | 0, _, _, _, _, _, _, h, _ => h.elim
 | d + 1, 0, _, _, _, _, hf, _, _ => by omega
 | d + 1, f + 1, n, ps, ns, L, hf, ⟨p, ms, h1, h2, h3⟩, hn => by
  subst h2
  have hnm : n ∉ L := fun hm => (List.nodup_append.1 hn).2.2 n hm n (by simp) rfl
  have hn2 : ((L ++ [n]) ++ ms).Nodup := by simpa using hn
  have hnode : nodeN 128 s n = p.node := by unfold nodeN; rw [h1]
  simp only [Go.Proofs.YtmmjckokjmpfpaaGreat.trav, if_neg hnm, hnode]
  rcases h3 with ⟨_, l, h4, h5, h6⟩ | ⟨F, h4, h5, h6⟩
  ·rw [h4]
   simpa using h6.trav hn2
  ·rw [h4]
   simpa using ForksR.trav (T := TreeR (readAt 128 s) d) (fun n p1 n1 L ht hnd => TreeR.trav (by omega) ht hnd) h6 hn2
def Before (q : Tv) (ps : List Pr) : Prop := q.2 = none ∧ q.1 <+: ps ∧ q.1.length < ps.length
theorem ItemR.broken {s b : ByteArray} {i : It} {v : ByteArray} {ns : List Nat} {m : Nat} (h : ItemR (readAt 128 s) i v ns) (hn : ns.Nodup) (hm : m ∈ ns) (hr : ∀ n, n ≠ m → readAt 128 b n = readAt 128 s n) (hb : readAt 128 b m = none) : valN 128 b i = none := by
 unfold valN
 rcases h with ⟨h1, rfl, rfl⟩ | ⟨h1, h2, tx, L, h3, h4, h5⟩
 ·simp at hm
 ·rw [h1, if_pos rfl]
  have hno := on_nos (onL_some h3).2.2.2.2.2.2
  have hd : nthU ns 0 = i.hd := by
   cases ns with
   | nil => simp at h4
   | cons a t => simp at h4; rw [← h4]; rfl
  obtain ⟨p, hp, rfl⟩ := List.mem_map.1 (show m ∈ nosP L by rw [hno]; exact hm)
  obtain ⟨j, hj, hjp⟩ := List.mem_iff_getElem.1 hp
  have hj2 : L[j]? = some p := by rw [List.getElem?_eq_getElem hj, hjp]
  rw [← hd]
  refine value_broken h3 hj2 (fun k q hk hq => ?_) hb i.ln
  have hne : q.pg ≠ p.pg := nodup_front (by rw [hno]; exact hn) hj2 q (List.mem_of_getElem? (show (L.take j)[k]? = some q by rw [List.getElem?_take_of_lt hk]; exact hq))
  exact (hr _ hne).trans (h5 q (List.mem_of_getElem? hq))
theorem ItemsR.broken {s b : ByteArray} {m : Nat} (hr : ∀ n, n ≠ m → readAt 128 b n = readAt 128 s n) (hb : readAt 128 b m = none) : ∀ {l : List It} {ps : List Pr} {ns L : List Nat}, ItemsR (readAt 128 s) l ps ns → (L ++ ns).Nodup → m ∈ ns → Before (itemsT 128 b l L) ps
 | [], ps, ns, L, ⟨h1, h2⟩, _, hm => by subst h2; simp at hm
 | i :: l, ps, ns, L, ⟨v, n1, p2, n2, h1, h2, h3, h4⟩, hn, hm => by
  subst h1 h2
  rw [← List.append_assoc] at hn
  by_cases hm1 : m ∈ n1
  ·have := h3.broken (List.nodup_append.1 (List.nodup_append.1 hn).1).2.1 hm1 hr hb
   simp only [itemsT, this]
   exact ⟨rfl, List.nil_prefix, by simp⟩
  ·have hm2 : m ∈ n2 := by
    rcases List.mem_append.1 hm with h | h
    ·exact absurd h hm1
    ·exact h
   have h7 := (h3.agree (rd' := readAt 128 b) (fun n hn => hr n (fun e => hm1 (e ▸ hn)))).val
   have h5 := visitL_ok (t := n1) (L := L) ((List.nodup_append.1 hn).1)
   obtain ⟨e1, e2, e3⟩ := ItemsR.broken hr hb h4 hn hm2
   simp only [itemsT, h7, h5]
   exact ⟨e1, by simpa using e2, by simpa using e3⟩
theorem ForksR.broken {T : Nat → List Pr → List Nat → Prop} {f : Nat → List Nat → Tv} {m : Nat} (hf : ∀ n p1 n1 L, T n p1 n1 → (L ++ n1).Nodup → m ∉ n1 → f n L = (p1, some (L ++ n1))) (hg : ∀ n p1 n1 L, T n p1 n1 → (L ++ n1).Nodup → m ∈ n1 → Before (f n L) p1) : ∀ {F : List Fk} {ps : List Pr} {ns L : List Nat}, ForksR T F ps ns → (L ++ ns).Nodup → m ∈ ns → Before (forksT f F L) ps
 | [], ps, ns, L, ⟨h1, h2⟩, _, hm => by subst h2; simp at hm
 | b :: F, ps, ns, L, ⟨p1, p2, n1, n2, h1, h2, h3, h4, h5⟩, hn, hm => by
  subst h1 h2
  rw [← List.append_assoc] at hn
  by_cases hm1 : m ∈ n1
  ·obtain ⟨e1, e2, e3⟩ := hg _ _ _ L h3 (List.nodup_append.1 hn).1 hm1
   simp only [forksT, e1]
   exact ⟨rfl, e2.trans (List.prefix_append _ _), by simp; omega⟩
  ·have hm2 : m ∈ n2 := by
    rcases List.mem_append.1 hm with h | h
    ·exact absurd h hm1
    ·exact h
   have h6 := hf _ _ _ L h3 (List.nodup_append.1 hn).1 hm1
   obtain ⟨e1, e2, e3⟩ := ForksR.broken hf hg h5 hn hm2
   simp only [forksT, h6]
   exact ⟨e1, (List.prefix_append_right_inj _).2 e2, by simp; omega⟩
theorem TreeR.some_ {rd : Nat → Option Pg} {d n : Nat} {ps : List Pr} {ns : List Nat} (h : TreeR rd d n ps ns) : 0 < ps.length := by
 cases d with
 | zero => exact h.elim
 | succ d =>
  obtain ⟨p, ms, h1, h2, ⟨_, l, h4, h5, h6⟩ | ⟨F, h4, h5, h6⟩⟩ := h
  ·cases l with
   | nil => exact absurd rfl h5
   | cons i l => obtain ⟨v, n1, p2, n2, h7, _⟩ := h6; subst h7; simp
  ·cases F with
   | nil => exact absurd rfl h5
   | cons b F =>
    obtain ⟨p1, p2, n1, n2, h7, _, _, h8, _⟩ := h6
    subst h7
    cases p1 with
    | nil => simp at h8
    | cons _ _ => simp
theorem TreeR.broken {s b : ByteArray} {m : Nat} (hr : ∀ n, n ≠ m → readAt 128 b n = readAt 128 s n) (hb : readAt 128 b m = none) : ∀ {d f n : Nat} {ps : List Pr} {ns L : List Nat}, d ≤ f → TreeR (readAt 128 s) d n ps ns → (L ++ ns).Nodup → m ∈ ns → Before (Go.Proofs.YtmmjckokjmpfpaaGreat.trav 128 b f n L) ps
 | 0, _, _, _, _, _, _, h, _, _ => h.elim
 | d + 1, 0, _, _, _, _, hf, _, _, _ => by omega
 | d + 1, f + 1, n, ps, ns, L, hf, h0@⟨p, ms, h1, h2, h3⟩, hn, hm => by
  subst h2
  have hnm : n ∉ L := fun hm => (List.nodup_append.1 hn).2.2 n hm n (by simp) rfl
  have hn2 : ((L ++ [n]) ++ ms).Nodup := by simpa using hn
  by_cases hmn : m = n
  ·subst hmn
   have hnode : nodeN 128 b m = .none := by unfold nodeN; rw [hb]
   simp only [Go.Proofs.YtmmjckokjmpfpaaGreat.trav, if_neg hnm, hnode]
   exact ⟨rfl, List.nil_prefix, TreeR.some_ (rd := readAt 128 s) (d := d + 1) h0⟩
  ·have hm2 : m ∈ ms := by
    rcases List.mem_cons.1 hm with h | h
    ·exact absurd h hmn
    ·exact h
   have hnode : nodeN 128 b n = p.node := by unfold nodeN; rw [hr n (fun e => hmn e.symm), h1]
   simp only [Go.Proofs.YtmmjckokjmpfpaaGreat.trav, if_neg hnm, hnode]
   rcases h3 with ⟨_, l, h4, h5, h6⟩ | ⟨F, h4, h5, h6⟩
   ·rw [h4]
    exact h6.broken hr hb hn2 hm2
   ·rw [h4]
    exact ForksR.broken (T := TreeR (readAt 128 s) d) (fun n p1 n1 L ht hnd hmm => TreeR.trav (by omega) (ht.agree (fun x hx => hr x (fun e => hmm (e ▸ hx)))) hnd) (fun n p1 n1 L ht hnd hmm => TreeR.broken hr hb (by omega) ht hnd hmm) h6 hn2 hm2
end Go.Proofs.YtmmjckokjmpfpaaGreat

namespace Go.Proofs.YtmmjckokjmpfpaaGreat
open Go.RowKit
open Go.Lib hiding intOf

theorem readAt_put {z c w : Nat} {img b : ByteArray} (hg : goodSize z = true) (hl : img.size = c * z) (hb : b.size = z) (hw : w < c) (hno : blockOk z w b = false) (n : Nat) :
  readAt z (writeB z w b img) n = if n = w then none else readAt z img n := by
 have hgp := good_pos hg
 obtain ⟨z', hzz, hz1, _⟩ := good_nat hg
 have hz0 : 0 < z := by omega
 have hil : img.data.toList.length = c * z := by rw [size_list, hl]
 have hbl : b.data.toList.length = z := by rw [size_list, hb]
 have hws : (writeB z w b img).size = c * z := by rw [← size_list, writeB_list, bWrite_pages z w c _ _ hil hbl, Nat.max_eq_left (by omega)]
 have hd1 : (writeB z w b img).size / z = c := by rw [hws, Nat.mul_div_cancel _ hz0]
 have hd2 : img.size / z = c := by rw [hl, Nat.mul_div_cancel _ hz0]
 have hzn : ((z : Nat) : Int).toNat = z := by omega
 unfold readAt
 rw [hzn, hd1, hd2, hg]
 by_cases hn : n < c
 ·have hblk : blkOf z (writeB z w b img) n = if n = w then b else blkOf z img n := by
   apply bytes_ext
   rw [blkOf_list, writeB_list, pieceL_write z w c n _ _ hil hbl (by omega)]
   split
   ·rfl
   ·first | rw [blkOf_list] | rw [if_pos hn, blkOf_list]
  rw [hblk]
  by_cases h1 : n = w
  ·rw [if_pos h1, if_pos h1, h1, hno]
   simp
  ·rw [if_neg h1, if_neg h1]
 ·rw [decide_eq_false hn, if_neg (by omega : ¬ n = w)]
  simp
theorem readAt_ok {z n : Nat} {img : ByteArray} {p : Pg} (h : readAt z img n = some p) : blockOk z n (blkOf z img n) = true := by
 unfold readAt at h
 rw [Int.toNat_natCast] at h
 split at h
 ·rename_i hc
  simp only [Bool.and_eq_true] at hc
  exact hc.2.2
 ·cases h

theorem onL_yesN {tx : Nat} {ps : List Nat} {v : ByteArray} (h2 : 0 < v.size) (h3 : v.size ≤ 4096) (h4 : (partsL 128 v).length = ps.length) (h5 : fineL ps = true) (h6 : tx ≤ 4611686018427387904) : onL 128 tx ps v = some ((List.range ps.length).map (onPg 128 tx ps v)) := by
 unfold onL
 rw [show goodSize 128 = true from rfl, decide_eq_true h2, decide_eq_true h3, decide_eq_true h4, h5, decide_eq_true h6]
 rfl
end Go.Proofs.YtmmjckokjmpfpaaGreat

namespace Go.Proofs.YtmmjckokjmpfpaaGreat
open Go.RowKit
open Go.Lib hiding intOf

theorem runW_at {f n i : Nat} (hi : i < n) (h : f + n ≤ 1000000) : nthU (runW f n) i = f + i := nthU_of (by unfold runW; rw [List.getElem?_map, List.getElem?_range hi]; show some ((f + i) % 4294967296) = _; rw [Nat.mod_eq_of_lt (by omega)])
theorem fine_run {f n : Nat} (hf : 2 ≤ f) (h : f + n ≤ 1000000) : fineL (runW f n) = true := by
 refine fineL_iff.2 fun j hj => ?_
 rw [runW_len] at hj
 rw [runW_at hj h]
 refine ⟨numB_iff.2 (by omega), fun m hm => ?_⟩
 rw [runW_at (by omega) h]
 omega
end Go.Proofs.YtmmjckokjmpfpaaGreat

