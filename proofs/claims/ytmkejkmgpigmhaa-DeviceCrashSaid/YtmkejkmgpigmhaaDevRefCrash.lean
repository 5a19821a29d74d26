/-
  The contract of the reference's Crash, with its conditions in its own statement.
-/
import Derived.Test.YtmkejkmgpigmhaaDevRefs
namespace Go.Proofs.Ytmkejkmgpigmhaa
open Go.RowKit
open Go.Lib hiding intOf
set_option linter.unusedVariables false
set_option linter.unusedSimpArgs false

theorem ops_len : ∀ l : List POp, (l.flatMap opCells).length = l.length * 3
  | [] => rfl
  | o :: l => by
    rw [List.flatMap_cons, List.length_append, ops_len l, List.length_cons]
    cases o <;> simp [opCells] <;> omega
theorem ops_at : ∀ (l : List POp) (j i : Nat) (o : POp), l[j]? = some o → i < 3 → (l.flatMap opCells)[j * 3 + i]? = (opCells o)[i]?
  | [], j, i, o, h, _ => by simp at h
  | p :: l, 0, i, o, h, hi => by
    have : p = o := by simpa using h
    subst this
    rw [List.flatMap_cons, List.getElem?_append_left (by cases p <;> simp [opCells] <;> omega)]
    simp
  | p :: l, j + 1, i, o, h, hi => by
    have h1 : l[j]? = some o := by simpa using h
    have hp : (opCells p).length = 3 := by cases p <;> rfl
    rw [List.flatMap_cons, List.getElem?_append_right (by omega), hp, ← ops_at l j i o h1 hi]
    congr 1
    omega
theorem on_len {o : POp} {cap : Nat} (ho : o.ok 128 cap) {l : List UInt8} (hl : l.length < cap * 128 + 128) : (o.on 128 l).length < cap * 128 + 128 := by
  cases o with
  | wr k b =>
    have h2 : k < cap := ho.1
    show (bWrite 128 k b.data.toList l).length < _
    rw [bWrite_len 128 k _ _ (by rw [size_list]; exact ho.2)]
    omega
  | tr k =>
    show (l.take (k * 128)).length < _
    rw [List.length_take]
    omega
theorem keepUp_len {keep : List Int} {pend : List POp} {d : List UInt8} {cap : Nat} (ho : ∀ o ∈ pend, o.ok 128 cap) (hd : d.length < cap * 128 + 128) : ∀ j, (keepUp 128 keep pend d j).length < cap * 128 + 128
  | 0 => hd
  | j + 1 => by
    have ih := keepUp_len (keep := keep) ho hd j
    unfold keepUp
    split
    · rename_i o hj
      split
      · exact on_len (ho o (List.mem_of_getElem? hj)) ih
      · exact ih
    · exact ih
theorem take_in {l : List Int} {m : Nat} {y : Int} (h : l[m]? = some y) (x : Int) : (l.take (m + 1)).contains x = ((l.take m).contains x || y == x) := by
  have hm := (List.getElem?_eq_some_iff.1 h).1
  have e : l[m] = y := (List.getElem?_eq_some_iff.1 h).2
  rw [List.take_succ_eq_append_getElem hm, e, List.contains_append, Bool.eq_iff_iff]
  simp
  exact or_congr Iff.rfl ⟨fun h => h.symm, fun h => h.symm⟩

section
variable {w w' : World} {F G : Nat → Prop} {g : Nat} {S : DevS} {D I : ByteArray} {A : Option Addr} {n c : Nat}
theorem RefAt.op (h : RefAt w F g S D I A n c) {j : Nat} (hj : j < n) :
    ∃ g3 o, A = some ⟨g3, 0, none⟩ ∧ S.pend[j]? = some o ∧ o.ok 128 S.cap ∧ w.cell? ⟨g3, j * 3, none⟩ = (opCells o)[0]? ∧ w.cell? ⟨g3, j * 3 + 1, none⟩ = (opCells o)[1]? ∧ w.cell? ⟨g3, j * 3 + 2, none⟩ = (opCells o)[2]? := by
  have hjl : j < S.pend.length := by rw [← h.np]; exact hj
  have ho := List.getElem?_eq_getElem hjl
  obtain ⟨gg, cap, hvv, _, hlt⟩ := h.own.form (by omega)
  injection hvv with e1 e2 e3
  subst e1
  have hc := h.own.cells (g := gg) rfl
  have hat : ∀ i, i < 3 → w.cell? ⟨gg, j * 3 + i, none⟩ = (opCells S.pend[j])[i]? := by
    intro i hi
    have h1 := ops_at _ j i _ ho hi
    have hl : (opCells S.pend[j]).length = 3 := by cases S.pend[j] <;> rfl
    have hl2 : i < (opCells S.pend[j]).length := by omega
    rw [List.getElem?_eq_getElem hl2] at h1 ⊢
    have h2 := hc _ _ h1
    have e : (⟨gg, 0, none⟩ : Addr).add (j * 3 + i) = ⟨gg, j * 3 + i, none⟩ := by unfold Addr.add; split <;> simp_all
    rw [e] at h2
    exact h2
  exact ⟨gg, _, rfl, ho, h.each _ (List.getElem_mem hjl), hat 0 (by omega), hat 1 (by omega), hat 2 (by omega)⟩

set_option maxRecDepth 100000 in
set_option maxHeartbeats 3200000 in
theorem rcrash_any (h : Ref w F g S) (hops : S.ops ≤ 4294967296) {Ak : Option Addr} {nk : Nat} (ck : Nat) {keep : List Int} (hr : Reads w w.heap.size 1 Ak nk (keep.map (Value.int .i64))) (hnk : nk ≤ 17592186044416) :
    Calls Try.prog 50 #[.pointer (some ⟨g, 0, none⟩), .slice Ak nk ck] w fun e w' => e = .returned (.int .i64 0) ∧
      Ref w' F g { S with img := keepUp 128 keep S.pend S.dur S.pend.length, dur := keepUp 128 keep S.pend S.dur S.pend.length, pend := [], fuse := -1 } ∧ Kept F w w' := by
  obtain ⟨D, I, A, n, c, h⟩ := h
  have hn3 : n ≤ 4294967296 := by have := h.np; have := h.few; omega
  have hkl : keep.length = nk := by have := hr.1; rw [List.length_map] at this; omega
  have HKL := Lib.hid hkl
  have HP := Lib.hid h.np
  obtain ⟨_, _, k2, _⟩ := ref_cells h.blk
  clear hkl
  go_enter Try.func50, Try.ntmps50
  go_wp2_with fail
  clear k2
  go_loopw [5, 6] (fun im i wr => ∃ (j : Nat) (J : ByteArray), j ≤ n ∧ i = .int .i64 j ∧ im = .string J ∧ Hid (J.data.toList = keepUp 128 keep S.pend S.dur j) ∧ Hid (Below w.heap.size w wr)) (fun _ i _ => n - (RowKit.intOf i).toNat)
  case atStart => exact ⟨0, D, Nat.zero_le _, rfl, rfl, h.dur, Below.refl _ _⟩
  case round =>
    obtain ⟨j, J, hj, rfl, rfl, HJ, HB⟩ := hrel
    have h1 := h.new HB.out
    obtain ⟨k0, _, _, k3, _⟩ := ref_cells h1.blk
    have hr1 := hr.below HB.out
    by_cases hlt : j < n
    · obtain ⟨g3, o, hA3, hoj, hok, q0, q1, q2⟩ := h1.op hlt
      subst hA3
      have HO := Lib.hid hoj
      clear hoj
      go_wp2_with fail
      go_loop [7, 8] (fun b k => ∃ m : Nat, m ≤ nk ∧ k = .int .i64 m ∧ b = .bool ((keep.take m).contains (j : Int))) (fun _ k => nk - (RowKit.intOf k).toNat)
      case atStart => exact ⟨0, Nat.zero_le _, rfl, by simp⟩
      case round =>
        obtain ⟨m, hm, rfl, rfl⟩ := hrel
        by_cases hmn : m < nk
        · obtain ⟨ad, y, rfl, _, hy, hyc⟩ := int_at hr1 hmn
          have ht := take_in hy (j : Int)
          have HT := Lib.hid ht
          clear ht hy
          have b0 : (0 : Int) ≤ m := by omega
          have b1 : (m : Int) < nk := by omega
          by_cases hc : (keep.take m).contains (j : Int) = true
          · rw [hc] at HT ⊢
            clear hc
            go_wp2_with fail
            go_round
            case rel => exact ⟨m + 1, by omega, by go_num, by rw [HT.out]; rfl⟩
            case measure => simp [RowKit.intOf]; omega
          · have hc : (keep.take m).contains (j : Int) = false := by simpa using hc
            rw [hc] at HT ⊢
            clear hc
            go_wp2_with fail
            go_round
            case rel => exact ⟨m + 1, by omega, by go_num, by rw [HT.out]; rfl⟩
            case measure => simp [RowKit.intOf]; omega
        · obtain rfl : m = nk := by omega
          rw [List.take_of_length_le (by rw [HKL.out]; omega)]
          have b0 : (0 : Int) ≤ j := by omega
          have b1 : (j : Int) < n := by omega
          by_cases hin : keep.contains (j : Int) = true
          · have HIN := Lib.hid hin
            rw [hin]
            clear hin
            have hJl : J.size ≤ 4294967296 := by
              have h2 := keepUp_len (keep := keep) h.each h.dl j
              rw [← HJ.out, size_list] at h2
              have h3 := h.capHi
              omega
            cases o with
            | wr k b =>
              replace q0 : wr.cell? ⟨g3, j * 3, none⟩ = some (.bool false) := q0
              replace q1 : wr.cell? ⟨g3, j * 3 + 1, none⟩ = some (.int .u32 k) := q1
              replace q2 : wr.cell? ⟨g3, j * 3 + 2, none⟩ = some (.string b) := q2
              have hd := fun W => rdoes_wr J b k W (by have := hok.1; have := h.capHi; omega) hJl hok.2
              go_wp2_with fail
              go_region_with (go_at_call 63; refine (hd _).mono ?_; rintro e w2 ⟨rfl, hb2⟩)
              all_goals (go_wp2_with fail; go_roundw)
              all_goals first
                | (case rel =>
                    refine ⟨j + 1, onB (.wr k b) J, by omega, by go_num, rfl, ?_, (HB.out.drew).trans (hb2.mono HB.out.size)⟩
                    refine Lib.hid ?_
                    rw [onB_list, HJ.out, keepUp_yes HO.out HIN.out])
                | (case measure => simp [RowKit.intOf]; omega)
            | tr k =>
              replace q0 : wr.cell? ⟨g3, j * 3, none⟩ = some (.bool true) := q0
              replace q1 : wr.cell? ⟨g3, j * 3 + 1, none⟩ = some (.int .u32 k) := q1
              replace q2 : wr.cell? ⟨g3, j * 3 + 2, none⟩ = some (.string ⟨#[]⟩) := q2
              have hd := fun W => rdoes_tr J k W (Nat.le_trans hok h.capHi) hJl
              go_wp2_with fail
              go_region_with (go_at_call 63; refine (hd _).mono ?_; rintro e w2 ⟨rfl, hb2⟩)
              all_goals (go_wp2_with fail; go_roundw)
              all_goals first
                | (case rel =>
                    refine ⟨j + 1, onB (.tr k) J, by omega, by go_num, rfl, ?_, (HB.out.drew).trans (hb2.mono HB.out.size)⟩
                    refine Lib.hid ?_
                    rw [onB_list, HJ.out, keepUp_yes HO.out HIN.out])
                | (case measure => simp [RowKit.intOf]; omega)
          · have hin : keep.contains (j : Int) = false := by simpa using hin
            have HIN := Lib.hid hin
            rw [hin]
            clear hin
            go_wp2_with fail
            go_roundw
            case rel =>
              refine ⟨j + 1, J, by omega, by go_num, rfl, ?_, HB⟩
              refine Lib.hid ?_
              rw [keepUp_no HIN.out]
              exact HJ.out
            case measure => simp [RowKit.intOf]; omega
    · obtain rfl : j = n := by omega
      obtain ⟨_, _, k2, _, k4, k5, _⟩ := ref_cells h1.blk
      have f2 := h1.blk.frozen 2
      have f3 := h1.blk.frozen 3
      have f4 := h1.blk.frozen 4
      have f5 := h1.blk.frozen 5
      go_wp2_with fail
      go_ret
      have hjl := HJ.out
      rw [HP.out] at hjl
      have hkl := keepUp_len (keep := keep) h.each h.dl S.pend.length
      exact ⟨rfl, ⟨J, J, none, 0, 0, { h1 with
        blk := (((h1.blk.set_ 2 _).set_ 4 _).set_ 3 _).set_ 5 _
        own := World.ownsRow_nil _ _ _ _
        dur := hjl
        img := hjl
        np := rfl
        each := fun o ho => by simp at ho
        dl := hkl
        il := hkl
        few := Nat.zero_le _
        F1 := fun k hk => by simp [Value.ownBlock] at hk
        Flt := fun k hk' => by have := h1.Flt k hk'; simpa [World.setCell] using this }⟩, ((((Kept.of_new HB.out).setCell (.inl h.Fg) _).setCell (.inl h.Fg) _).setCell (.inl h.Fg) _).setCell (.inl h.Fg) _⟩
end
end Go.Proofs.Ytmkejkmgpigmhaa
