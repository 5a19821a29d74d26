/-
  Which items package build takes for valid: those that are; plain lemmas. No statement is proved here. (Written by wip/tools/gen_buv.py.)
-/
import Derived.Test.YtgnpldlgdapehaaJ16
import Derived.Test.YtgnpldlgdapehaaJ17
import Derived.Test.YtgnpldlgdapehaaJ20
set_option linter.unusedVariables false
set_option linter.unusedSimpArgs false
namespace Go.Proofs.Ytgnpldlgdapehaa
open Go.RowKit

theorem okAtI_is {l : List It} {k : Nat} {x : It} (hx : l[k]? = some x) : okAtI l k = (okIt x && adjB (l.map (·.ky)) k) := by
 rw [okAtI_of hx]
 unfold adjB
 rw [List.getElem?_map, List.getElem?_map, hx]
 cases h : l[k - 1]? <;> simp
theorem allOkI_is (l : List It) : allOkI l = (l.all okIt && risesK (l.map (·.ky))) := by
 rw [Bool.eq_iff_iff, Bool.and_eq_true]
 constructor
 ·intro h
  rw [allOkI, List.all_eq_true] at h
  refine ⟨?_, ?_⟩
  ·rw [List.all_eq_true]
   intro b hb
   obtain ⟨i, hi, rfl⟩ := List.mem_iff_getElem.1 hb
   have := h i (List.mem_range.2 hi)
   rw [okAtI_is (List.getElem?_eq_getElem hi), Bool.and_eq_true] at this
   exact this.1
  ·refine risesK_yes fun j hj => ?_
   rw [List.length_map] at hj
   have := h j (List.mem_range.2 hj)
   rw [okAtI_is (List.getElem?_eq_getElem hj), Bool.and_eq_true] at this
   exact this.2
 ·rintro ⟨h1, h2⟩
  refine allOkI_yes fun j hj => ?_
  rw [okAtI_is (List.getElem?_eq_getElem hj), Bool.and_eq_true]
  rw [List.all_eq_true] at h1
  rw [risesK, List.all_eq_true] at h2
  exact ⟨h1 _ (List.getElem_mem hj), h2 j (List.mem_range.2 (by rw [List.length_map]; exact hj))⟩
theorem szI_one {b : It} (h : okIt b = true) : sizeI [b] ≤ 298 := by
 have h1 := okIt_one h
 simp only [sizeI]
 omega
theorem szI_snoc (a : List It) (x : It) : sizeI (a ++ [x]) = sizeI a + sizeI [x] := by
 rw [sizeI_snoc]
 simp [sizeI]
theorem cutPI_greedy {l : List It} {room : Nat} (h : ∀ x ∈ l, sizeI [x] ≤ room) : Greedy sizeI room (cutP (fun x : It => ((sizeI [x] : Nat) : Int)) (room : Int) l) ∧ (cutP (fun x : It => ((sizeI [x] : Nat) : Int)) (room : Int) l).flatten = l :=
 cutP_greedy (sz := sizeI) (one := fun x => sizeI [x]) rfl szI_snoc h
theorem cutPI_fine {l : List It} {room : Nat} (h : cutP (fun x : It => ((sizeI [x] : Nat) : Int)) (room : Int) l ≠ []) : l ≠ [] ∧ ∀ x ∈ l, sizeI [x] ≤ room := by
 have h0 : cutL (l.map fun x : It => ((sizeI [x] : Nat) : Int)) (room : Int) ≠ [] := fun e => h (by unfold cutP; rw [e]; rfl)
 refine ⟨fun e => h0 (by rw [e]; rfl), fun x hx => ?_⟩
 obtain ⟨i, hi, rfl⟩ := List.mem_iff_getElem.1 hx
 unfold cutL at h0
 cases hc : cutAt (l.map fun x : It => ((sizeI [x] : Nat) : Int)) room (l.map fun x : It => ((sizeI [x] : Nat) : Int)).length with
 | none => rw [hc] at h0; exact absurd rfl h0
 | some t =>
  have := (cutAt_fine hc i (by rw [List.length_map]; exact hi)).2
  rw [List.getD_eq_getElem?_getD, List.getElem?_map, List.getElem?_eq_getElem hi] at this
  have h2 : ((sizeI [l[i]] : Nat) : Int) ≤ (room : Int) := this
  omega
theorem cutPI_some {l : List It} {room : Nat} (h0 : l ≠ []) (h : ∀ x ∈ l, sizeI [x] ≤ room) : cutP (fun x : It => ((sizeI [x] : Nat) : Int)) (room : Int) l ≠ [] := fun e => by
 have := (cutPI_greedy h).2
 rw [e] at this
 exact h0 this.symm
theorem partsByI_seg {l p : List It} : ∀ {E : List Nat} {s : Nat}, p ∈ partsBy l s E → ∃ a b, p = (l.drop a).take b
 | [], s, h => by simp [partsBy] at h
 | e :: E, s, h => by
  unfold partsBy at h
  rcases List.mem_cons.1 h with rfl | h
  ·exact ⟨_, _, rfl⟩
  ·exact partsByI_seg h
theorem cutPI_seg {l p : List It} {one : It → Int} {room : Int} (h : p ∈ cutP one room l) : ∃ a b, p = (l.drop a).take b := partsByI_seg h
theorem mayI_parts (l : List It) : mayI l = (!(cutP (fun x : It => ((sizeI [x] : Nat) : Int)) 4072 l).isEmpty && !((cutP (fun x : It => ((sizeI [x] : Nat) : Int)) 4072 l).any fun p => !mayP8 4096 2 0 p) && risesK (l.map (·.ky))) := by
 obtain ⟨P, hP⟩ : ∃ P, P = cutP (fun x : It => ((sizeI [x] : Nat) : Int)) ((4072 : Nat) : Int) l := ⟨_, rfl⟩
 have hP2 : cutP (fun x : It => ((sizeI [x] : Nat) : Int)) 4072 l = P := hP.symm
 rw [hP2, Bool.eq_iff_iff]
 unfold mayI
 rw [allOkI_is]
 simp only [Bool.and_eq_true, decide_eq_true_eq, Bool.not_eq_true', List.isEmpty_eq_false_iff, List.any_eq_false, Bool.not_eq_true, Bool.not_eq_false']
 constructor
 ·rintro ⟨⟨h1, h2⟩, h3⟩
  rw [List.all_eq_true] at h1
  have hf : ∀ x ∈ l, sizeI [x] ≤ 4072 := fun x hx => Nat.le_trans (szI_one (h1 x hx)) (by decide)
  have hne : l ≠ [] := by rintro rfl; simp at h3
  have hg := cutPI_greedy hf
  rw [← hP] at hg
  refine ⟨⟨by rw [hP]; exact cutPI_some hne hf, fun p hp => ?_⟩, h2⟩
  have hpn := hg.1.ne p hp
  have hpf := hg.1.fits p hp
  obtain ⟨a, b, hab⟩ := cutPI_seg (hP ▸ hp)
  have hok : allOkI p = true := by
   rw [allOkI_is, Bool.and_eq_true]
   refine ⟨?_, ?_⟩
   ·rw [List.all_eq_true]
    intro x hx
    rw [hab] at hx
    exact h1 x (List.mem_of_mem_drop (List.mem_of_mem_take hx))
   ·rw [hab, List.map_take, List.map_drop]
    exact risesK_seg h2 a b
  have hpos : 0 < p.length := List.length_pos_iff.2 hpn
  unfold mayP8 mayI
  rw [hok, decide_eq_true hpos, show goodSize 4096 = true from rfl, show numB 2 = true from rfl]
  simp
  omega
 ·rintro ⟨⟨h1, h2⟩, h3⟩
  rw [hP] at h1
  obtain ⟨hne, hf⟩ := cutPI_fine h1
  have hg := cutPI_greedy hf
  rw [← hP] at hg
  refine ⟨⟨?_, h3⟩, List.length_pos_iff.2 hne⟩
  rw [List.all_eq_true]
  intro x hx
  rw [← hg.2] at hx
  obtain ⟨p, hp, hxp⟩ := List.mem_flatten.1 hx
  have h4 := (mayP8_parts (z := 4096) (n := 2) (tx := 0) (l := p) (by have := h2 p hp; simpa using this)).1
  rw [allOkI_is, Bool.and_eq_true, List.all_eq_true] at h4
  exact h4.1 x hxp
end Go.Proofs.Ytgnpldlgdapehaa

