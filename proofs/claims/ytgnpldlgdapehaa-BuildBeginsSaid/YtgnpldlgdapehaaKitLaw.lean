/-
  Contracts of what the statements call of the kit's own: Times and Pick.
-/
import Derived.Test.YtgnpldlgdapehaaWords
import Derived.Test.YtgnpldlgdapehaaPlain
import Derived.Test.YtgnpldlgdapehaaDevPlain
namespace Go.Proofs.Ytgnpldlgdapehaa
open Go.RowKit
open Go.Lib
set_option linter.unusedVariables false
set_option linter.unusedSimpArgs false

theorem pick_any (x : Int) (m : Nat) (w : World) (h0 : 1 ≤ m) (hm : m ≤ 1000000) :
    Calls Try.prog 24 #[.int .i64 x, .int .i64 m] w fun e w' => e = .returned (.int .i64 (x % m)) ∧ w = w' := by
  have h1 : ¬ (m : Int) < 1 := by omega
  have h3 : (m : Int) ≠ 0 := by omega
  by_cases ht : x.tmod m < 0
  · obtain ⟨he, hlo⟩ := tmod_lt0 x m h0 ht
    have HE := Lib.hid he
    clear he
    go_enter Try.func24, Try.ntmps24
    go_wp2
    go_ret
    refine ⟨?_, rfl⟩
    rw [← HE.out]; rfl
  · have he := tmod_ge0 x m h0 (by omega)
    have HE := Lib.hid he
    clear he
    go_enter Try.func24, Try.ntmps24
    go_wp2
    go_ret
    refine ⟨?_, rfl⟩
    rw [← HE.out]; rfl

theorem infoInt : (Try.prog.info? 3).map (fun i => (i.zero, i.size, i.bytes)) = some (some (.int .i64 0), 1, 8) := by kernel_rfl
theorem ints_one {k : IntKind} (l : List Int) : ∀ u ∈ l.map (Value.int k), u.oneCell' = true := by
  intro u hu
  obtain ⟨b, _, rfl⟩ := List.mem_map.1 hu
  rfl
/-- A text so many times. -/
def rep (l : List UInt8) (n : Nat) : List UInt8 := (List.replicate n l).flatten
theorem rep_len (l : List UInt8) (n : Nat) : (rep l n).length = n * l.length := by simp [rep]
theorem rep_zero (l : List UInt8) : rep l 0 = [] := rfl
theorem rep_succ (l : List UInt8) (n : Nat) : rep l (n + 1) = l ++ rep l n := by simp [rep, List.replicate_succ]
theorem rep_add (l : List UInt8) (m n : Nat) : rep l (m + n) = rep l m ++ rep l n := by
  unfold rep; rw [← List.replicate_append_replicate, List.flatten_append]
theorem rep_double (l : List UInt8) : ∀ n, rep (l ++ l) n = rep l (n + n)
  | 0 => rfl
  | n + 1 => by rw [rep_succ, rep_double l n, show n + 1 + (n + 1) = (n + n) + 1 + 1 by omega, rep_succ, rep_succ, List.append_assoc]
theorem rep_one (b : UInt8) (n : Nat) : rep [b] n = List.replicate n b := by
  induction n with
  | zero => rfl
  | succ n ih => rw [rep_succ, ih]; rfl
def reps (s : ByteArray) (n : Nat) : ByteArray := ⟨(rep s.data.toList n).toArray⟩
theorem reps_list (s : ByteArray) (n : Nat) : (reps s n).data.toList = rep s.data.toList n := by simp [reps]
theorem reps_size (s : ByteArray) (n : Nat) : (reps s n).size = n * s.size := by
  rw [← size_list, reps_list, rep_len, size_list]
theorem bytes_ext {a b : ByteArray} (h : a.data.toList = b.data.toList) : a = b := by
  apply ByteArray.ext
  rw [← Array.toArray_toList (xs := a.data), h, Array.toArray_toList]
theorem mk_list (s : ByteArray) : (⟨s.data.toList.toArray⟩ : ByteArray) = s := by simp

theorem reps_lit_size (b : UInt8) (n : Nat) : (reps ⟨#[b]⟩ n).size = n := by rw [reps_size]; show n * 1 = n; omega
end Go.Proofs.Ytgnpldlgdapehaa
