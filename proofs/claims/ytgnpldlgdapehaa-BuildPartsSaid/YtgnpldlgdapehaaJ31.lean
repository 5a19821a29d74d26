/-
  Which forks package build takes for valid: those that are; plain lemmas. No statement is proved here. (Written by wip/tools/gen_buv.py.)
-/
import Derived.Test.YtgnpldlgdapehaaJ13
import Derived.Test.YtgnpldlgdapehaaJ12
import Derived.Test.YtgnpldlgdapehaaJ29
set_option linter.unusedVariables false
set_option linter.unusedSimpArgs false
namespace Go.Proofs.Ytgnpldlgdapehaa
open Go.RowKit

theorem okAtF_is {l : List Fk} {k : Nat} {x : Fk} (hx : l[k]? = some x) : okAtF l k = (okFk x && adjB (l.map (·.nm)) k) := by
 rw [okAtF_of hx]
 unfold adjB
 rw [List.getElem?_map, List.getElem?_map, hx]
 cases h : l[k - 1]? <;> simp
theorem allOkF_is (l : List Fk) : allOkF l = (l.all okFk && risesK (l.map (·.nm))) := by
 rw [Bool.eq_iff_iff, Bool.and_eq_true]
 constructor
 ·intro h
  rw [allOkF, List.all_eq_true] at h
  refine ⟨?_, ?_⟩
  ·rw [List.all_eq_true]
   intro b hb
   obtain ⟨i, hi, rfl⟩ := List.mem_iff_getElem.1 hb
   have := h i (List.mem_range.2 hi)
   rw [okAtF_is (List.getElem?_eq_getElem hi), Bool.and_eq_true] at this
   exact this.1
  ·refine risesK_yes fun j hj => ?_
   rw [List.length_map] at hj
   have := h j (List.mem_range.2 hj)
   rw [okAtF_is (List.getElem?_eq_getElem hj), Bool.and_eq_true] at this
   exact this.2
 ·rintro ⟨h1, h2⟩
  refine allOkF_yes fun j hj => ?_
  rw [okAtF_is (List.getElem?_eq_getElem hj), Bool.and_eq_true]
  rw [List.all_eq_true] at h1
  rw [risesK, List.all_eq_true] at h2
  exact ⟨h1 _ (List.getElem_mem hj), h2 j (List.mem_range.2 (by rw [List.length_map]; exact hj))⟩
theorem szF_one {b : Fk} (h : okFk b = true) : sizeF [b] ≤ 298 := by
 unfold okFk keyF at h
 simp only [Bool.and_eq_true, decide_eq_true_eq] at h
 simp only [sizeF]
 omega
theorem szF_snoc (a : List Fk) (x : Fk) : sizeF (a ++ [x]) = sizeF a + sizeF [x] := by
 rw [sizeF_snoc]
 simp [sizeF]
theorem cutPF_greedy {l : List Fk} {room : Nat} (h : ∀ x ∈ l, sizeF [x] ≤ room) : Greedy sizeF room (cutP (fun x : Fk => ((sizeF [x] : Nat) : Int)) (room : Int) l) ∧ (cutP (fun x : Fk => ((sizeF [x] : Nat) : Int)) (room : Int) l).flatten = l :=
 cutP_greedy (sz := sizeF) (one := fun x => sizeF [x]) rfl szF_snoc h
theorem cutPF_fine {l : List Fk} {room : Nat} (h : cutP (fun x : Fk => ((sizeF [x] : Nat) : Int)) (room : Int) l ≠ []) : l ≠ [] ∧ ∀ x ∈ l, sizeF [x] ≤ room := by
 have h0 : cutL (l.map fun x : Fk => ((sizeF [x] : Nat) : Int)) (room : Int) ≠ [] := fun e => h (by unfold cutP; rw [e]; rfl)
 refine ⟨fun e => h0 (by rw [e]; rfl), fun x hx => ?_⟩
 obtain ⟨i, hi, rfl⟩ := List.mem_iff_getElem.1 hx
 unfold cutL at h0
 cases hc : cutAt (l.map fun x : Fk => ((sizeF [x] : Nat) : Int)) room (l.map fun x : Fk => ((sizeF [x] : Nat) : Int)).length with
 | none => rw [hc] at h0; exact absurd rfl h0
 | some t =>
  have := (cutAt_fine hc i (by rw [List.length_map]; exact hi)).2
  rw [List.getD_eq_getElem?_getD, List.getElem?_map, List.getElem?_eq_getElem hi] at this
  have h2 : ((sizeF [l[i]] : Nat) : Int) ≤ (room : Int) := this
  omega
theorem cutPF_some {l : List Fk} {room : Nat} (h0 : l ≠ []) (h : ∀ x ∈ l, sizeF [x] ≤ room) : cutP (fun x : Fk => ((sizeF [x] : Nat) : Int)) (room : Int) l ≠ [] := fun e => by
 have := (cutPF_greedy h).2
 rw [e] at this
 exact h0 this.symm
theorem partsByF_seg {l p : List Fk} : ∀ {E : List Nat} {s : Nat}, p ∈ partsBy l s E → ∃ a b, p = (l.drop a).take b
 | [], s, h => by simp [partsBy] at h
 | e :: E, s, h => by
  unfold partsBy at h
  rcases List.mem_cons.1 h with rfl | h
  ·exact ⟨_, _, rfl⟩
  ·exact partsByF_seg h
theorem cutPF_seg {l p : List Fk} {one : Fk → Int} {room : Int} (h : p ∈ cutP one room l) : ∃ a b, p = (l.drop a).take b := partsByF_seg h
theorem mayF_parts (l : List Fk) : mayF l = (!(cutP (fun x : Fk => ((sizeF [x] : Nat) : Int)) 4072 l).isEmpty && !((cutP (fun x : Fk => ((sizeF [x] : Nat) : Int)) 4072 l).any fun p => !mayP7 4096 2 0 p) && risesK (l.map (·.nm))) := by
 obtain ⟨P, hP⟩ : ∃ P, P = cutP (fun x : Fk => ((sizeF [x] : Nat) : Int)) ((4072 : Nat) : Int) l := ⟨_, rfl⟩
 have hP2 : cutP (fun x : Fk => ((sizeF [x] : Nat) : Int)) 4072 l = P := hP.symm
 rw [hP2, Bool.eq_iff_iff]
 unfold mayF
 rw [allOkF_is]
 simp only [Bool.and_eq_true, decide_eq_true_eq, Bool.not_eq_true', List.isEmpty_eq_false_iff, List.any_eq_false, Bool.not_eq_true, Bool.not_eq_false']
 constructor
 ·rintro ⟨⟨h1, h2⟩, h3⟩
  rw [List.all_eq_true] at h1
  have hf : ∀ x ∈ l, sizeF [x] ≤ 4072 := fun x hx => Nat.le_trans (szF_one (h1 x hx)) (by decide)
  have hne : l ≠ [] := by rintro rfl; simp at h3
  have hg := cutPF_greedy hf
  rw [← hP] at hg
  refine ⟨⟨by rw [hP]; exact cutPF_some hne hf, fun p hp => ?_⟩, h2⟩
  have hpn := hg.1.ne p hp
  have hpf := hg.1.fits p hp
  obtain ⟨a, b, hab⟩ := cutPF_seg (hP ▸ hp)
  have hok : allOkF p = true := by
   rw [allOkF_is, Bool.and_eq_true]
   refine ⟨?_, ?_⟩
   ·rw [List.all_eq_true]
    intro x hx
    rw [hab] at hx
    exact h1 x (List.mem_of_mem_drop (List.mem_of_mem_take hx))
   ·rw [hab, List.map_take, List.map_drop]
    exact risesK_seg h2 a b
  have hpos : 0 < p.length := List.length_pos_iff.2 hpn
  unfold mayP7 mayF
  rw [hok, decide_eq_true hpos, show goodSize 4096 = true from rfl, show numB 2 = true from rfl]
  simp
  omega
 ·rintro ⟨⟨h1, h2⟩, h3⟩
  rw [hP] at h1
  obtain ⟨hne, hf⟩ := cutPF_fine h1
  have hg := cutPF_greedy hf
  rw [← hP] at hg
  refine ⟨⟨?_, h3⟩, List.length_pos_iff.2 hne⟩
  rw [List.all_eq_true]
  intro x hx
  rw [← hg.2] at hx
  obtain ⟨p, hp, hxp⟩ := List.mem_flatten.1 hx
  have h4 := (mayP7_parts (z := 4096) (n := 2) (tx := 0) (l := p) (by have := h2 p hp; simpa using this)).1
  rw [allOkF_is, Bool.and_eq_true, List.all_eq_true] at h4
  exact h4.1 x hxp
end Go.Proofs.Ytgnpldlgdapehaa

