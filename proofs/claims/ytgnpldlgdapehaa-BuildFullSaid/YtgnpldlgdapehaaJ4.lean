/-
  Texts that the main proof rests on, put together: Plain, RoundQ, BuRound. No statement is proved here.
-/
import Derived.Lib.Endian
import Derived.Lib.EndianBits
import Derived.Laws.Bits64b
import Derived.Laws.BitsAllLaws
import Derived.Below
import Derived.Lib.Strings
import Derived.Sort.QuietIn
import Derived.Sort.BigQuietIn
import Derived.Sort.QuietThIn
import Derived.RangeFuncNested
import Derived.TacticsInMore
import Derived.Test.YtgnpldlgdapehaaProg
import Derived.Deep.RegionHeld3
set_option linter.unusedVariables false
set_option linter.unusedSimpArgs false
namespace Go.Proofs.Ytgnpldlgdapehaa
open Go.Lib

theorem leBytes_snoc : ∀ (k v : Nat), Go.leBytes (k + 1) v = Go.leBytes k v ++ [(v / 2 ^ (8 * k) % 256).toUInt8]
 | 0, v => by simp [Go.leBytes]
 | k + 1, v => by
  rw [Go.leBytes, leBytes_snoc k, Go.leBytes, List.cons_append]
  congr 4
  rw [Nat.div_div_eq_div_mul, show 8 * (k + 1) = 8 + 8 * k by omega, Nat.pow_add]
/-! Go's '%' cuts towards nought. -/
theorem tmod_lt0 (x : Int) (m : Nat) (h : 1 ≤ m) (hn : x.tmod m < 0) : x.tmod m + m = x % m ∧ -(m:Int) < x.tmod m := by
 have e := @Int.tmod_eq_emod x m
 have h1 := Int.emod_nonneg x (show (m : Int) ≠ 0 by omega)
 have h2 := Int.emod_lt_of_pos x (show (0 : Int) < m by omega)
 by_cases hc : 0 ≤ x ∨ (m : Int) ∣ x
 ·rw [if_pos hc] at e
  omega
 ·rw [if_neg hc] at e
  have h3 : x % (m : Int) ≠ 0 := fun h0 => hc (.inr (Int.dvd_of_emod_eq_zero h0))
  simp only [Int.natAbs_natCast] at e
  omega
theorem tmod_ge0 (x : Int) (m : Nat) (h : 1 ≤ m) (hn : 0 ≤ x.tmod m) : x.tmod m = x % m := by
 have e := @Int.tmod_eq_emod x m
 have h2 := Int.emod_lt_of_pos x (show (0 : Int) < m by omega)
 by_cases hc : 0 ≤ x ∨ (m : Int) ∣ x
 ·rw [if_pos hc] at e
  omega
 ·rw [if_neg hc] at e
  simp only [Int.natAbs_natCast] at e
  omega
/-! Parts of a string. -/
end Go.Proofs.Ytgnpldlgdapehaa

namespace Go.Proofs.Ytgnpldlgdapehaa
open Go.RowKit
section
variable {F : Fence} {n : Nat} {P : Program} {ops : Array Oper} {Q : Exit → Act → World → Prop}
def plainOp (o : Oper) : Bool := match o.op with | .defer _ => false | _ => true
theorem plainOp_spec {o : Oper} (h : plainOp o = true) : ∀ c, o.op ≠ .defer c := fun c e => by
 unfold plainOp at h
 rw [e] at h
 cases h
theorem upon_round (l : Nat) (o : Oper) (a : Act) (K : Act → World → Prop) (r : Result Next) : o.uponIn (F.inRound l) n P a K Q r = o.uponIn F n P a K Q r := by
 rcases r with ⟨v, w⟩ | ⟨x, w⟩
 ·cases v <;> rfl
 ·cases x <;> rfl
theorem wpIn_round (hro : F.round = none) (l : Nat) {o : Oper} (hd : plainOp o = true) {a : Act} {w : World} {K : Act → World → Prop} (h : o.wpIn F n P a w K Q) : o.wpIn (F.inRound l) n P a w K Q := by
 refine ⟨h.1, ?_⟩
 rw [upon_round, Fence.inRound_round, Oper.semAt_some l _ o (plainOp_spec hd)]
 have h2 := h.2
 rw [hro] at h2
 exact h2
theorem wpOpIn_round (hro : F.round = none) (l : Nat) (hd : ∀ (i : Nat) (o : Oper), ops[i]? = some o → plainOp o = true) {i : Nat} {a : Act} {w : World} {K K' : Act → World → Prop} (hK : ∀ a w, K a w → K' a w) (h : wpOpIn F n P ops Q i K a w) : wpOpIn (F.inRound l) n P ops Q i K' a w := by
 unfold wpOpIn at h ⊢
 split at h
 ·rename_i e
  exact hK _ _ h
 ·rename_i o e
  split at h
  ·rename_i hw
   simp only [hw, if_true]
   exact wpIn_round hro l (hd i o e) (Oper.wpIn_mono hK h)
  ·rename_i hw
   simp only [hw]
   exact ⟨h.1, hK _ _ h.2⟩
theorem wpAnyIn_round (hro : F.round = none) (l : Nat) (md : Region.Mode) (hd : ∀ (i : Nat) (o : Oper), ops[i]? = some o → plainOp o = true) : ∀ (fuel : Nat) (listed : Array Bool) (a : Act) (w : World), wpAnyIn F n P md ops Q fuel listed a w → wpAnyIn (F.inRound l) n P md ops Q fuel listed a w
 | 0, _, _, _, h => h
 | fuel + 1, listed, a, w, h => ⟨h.1, fun i hi => wpOpIn_round hro l hd (fun a w hk => wpAnyIn_round hro l md hd fuel _ a w hk) (h.2 i hi)⟩
end
end Go.Proofs.Ytgnpldlgdapehaa

namespace Go.Proofs.Ytgnpldlgdapehaa
open Go.RowKit
section
variable {n : Nat} {P : Program} {ops : Array Oper} {Q : Exit → Act → World → Prop}
theorem uponIn_of_upon {o : Oper} {a : Act} {K : Act → World → Prop} {r : Result Next} (h : o.upon P a K Q r) : o.uponIn Fence.wide n P a K Q r := by
 rcases r with ⟨v, w⟩ | ⟨x, w⟩
 ·cases v with
  | value v => exact h
  | skip => exact h
  | defer d => exact h
  | enter f args =>
   refine ⟨fun h => by simp [Fence.wide] at h, ?_⟩
   exact callsIn_wide.2 h
  | row row args =>
   refine ⟨fun h => by simp [Fence.wide] at h, ?_⟩
   exact fun c cs _ => let ⟨v, w', r, s⟩ := h c cs; ⟨v, w', r, stepsIn_wide.2 s⟩
  | _ => exact h.elim
 ·cases x <;> exact h
theorem operIn_of_wp {o : Oper} {a : Act} {w : World} {K : Act → World → Prop} (h : o.wp P a w K Q) : o.wpIn Fence.wide n P a w K Q :=
 ⟨fun _ _ => trivial, uponIn_of_upon h⟩
theorem wpAnyIn_of_any (hlo : ¬ LetsOut Q) {md : Region.Mode} : ∀ (fuel : Nat) (listed : Array Bool) (a : Act) (w : World), wpAny P md ops Q fuel listed a w → wpAnyIn Fence.wide n P md ops Q fuel listed a w
 | 0, _, _, _, h => h
 | fuel + 1, listed, a, w, h => ⟨h.1, fun i hi => by
   have h2 := h.2 i hi
   unfold wpOp at h2
   unfold wpOpIn
   cases e : ops[i]? with
   | none =>
    rw [e] at h2
    exact wpAnyIn_of_any hlo fuel _ _ _ h2
   | some o =>
    rw [e] at h2
    dsimp only at h2 ⊢
    by_cases hw : Region.wanted o (yielded ops a.tmps) = true
    ·rw [if_pos hw] at h2 ⊢
     rcases h2 with h2 | h2
     ·exact Oper.wpIn_mono (fun a w hk => wpAnyIn_of_any hlo fuel _ a w hk) (operIn_of_wp h2)
     ·exact (hlo h2.2).elim
    ·rw [if_neg hw] at h2 ⊢
     exact ⟨fun _ _ => trivial, wpAnyIn_of_any hlo fuel _ _ _ h2⟩⟩
theorem region_held_round {id : Nat} {a : Act} {w : World} {ol : List Oper} (l : Nat) {S : World → Prop} (hlo : ¬ LetsOut Q) (hm : P.follows .mixedOrders = true) (hd : ol.all plainOp = true) (hS : S w.drew)
  (h : S w.drew → wpAnyH P .any ol.toArray Q S ol.toArray.size (Array.replicate ol.toArray.size false) a w.drew) : (Code.region id ol.toArray true).wpIn (Fence.wide.inRound l) n P Q a w :=
 wpIn_region_any hm (wpAnyIn_round rfl l .any (fun i o e => List.all_eq_true.1 hd o (by rw [List.getElem?_toArray] at e; exact List.mem_of_getElem? e)) _ _ _ _ (wpAnyIn_of_any hlo _ _ _ _ (wpAny_of_held _ _ _ _ (h hS))))
end
end Go.Proofs.Ytgnpldlgdapehaa

