/-
  Contracts of package device's functions on images (cut, clone, bytes, write, extend, truncate), each with its conditions in its own statement.
-/
import Derived.Test.YtmkejkmgpigmhaaDevLib
import Derived.Deep.RegionHeld3
import Derived.Deep.AppendLies
import Derived.Laws.MakeOwn
import Derived.Deep.RegionLaw
import Derived.Deep.DeepCutAuto
namespace Go.Proofs.Ytmkejkmgpigmhaa
open Go.RowKit
open Go.Lib hiding intOf
set_option linter.unusedVariables false
set_option linter.unusedSimpArgs false

theorem blk_at {w w1 : World} {B : Nat} {t : TypeId} {cs : Array Value} {g : Nat} (h : Blk w g t cs) (hb : Below w.heap.size w w1) : Blk w1 g t cs := h.below hb h.lt

theorem own_low {w : World} {base B size n : Nat} {e : TypeId} {v : Value} {xs : List Value} (ho : w.ownsRow base e size v n xs) (h : B ≤ base) : w.ownsRow B e size v n xs := by
  refine ⟨ho.1, ?_⟩
  rcases ho.2 with h0 | ⟨g, cap, cur, hv, hb, hh⟩
  · exact .inl h0
  · exact .inr ⟨g, cap, cur, hv, by omega, hh⟩

theorem iclone_any {w : World} {A : Option Addr} {n : Nat} {l : List ByteArray} (c : Nat) (z r : ByteArray) (hr : Reads w w.heap.size 1 A n (strs l)) (hn : n ≤ 4294967296) :
    Calls Try.prog 35 #[.agg #[.string z, .slice A n c, .string r]] w fun e w' => ∃ A' c', e = .returned (.agg #[.string z, .slice A' n c', .string r]) ∧ w'.ownsRow w.heap.size 9 1 (.slice A' n c') n (strs l) ∧ Below w.heap.size w w' := by
  go_enter Try.func35, Try.ntmps35
  go_wp2_with (go_at_call 54
               refine (clones_any c ((hr.alloc (Nat.le_refl _) _).alloc (by simp) _ |>.more (by simp; omega)) hn).mono ?_
               rintro e w1 ⟨A', c', rfl, hown, hb1⟩
               have h0 := ((Blk.new w _ _).alloc _).below hb1 (by simp; omega)
               have h1 := (Blk.new (w.alloc _) _ _).below hb1 (by simp)
               have k0 := h0.cell 0
               have k1 := h0.cell 1
               have k2 := h0.cell 2
               have f1 := h0.frozen 1
               have k3 := h1.cell 0
               have k4 := h1.cell 1
               have k5 := h1.cell 2
               have f3 := h1.frozen 0
               have f4 := h1.frozen 1
               have f5 := h1.frozen 2
               simp at k0 k1 k2 k3 k4 k5 f1 f3 f4 f5)
  have hb : Below w.heap.size w w1 := (((Below.refl _ _).alloc (Nat.le_refl _) _).alloc (by simp) _).trans (hb1.mono (by simp; omega))
  refine bodyPost_ret (v := .agg #[.string z, .slice A' n c', .string r]) (by simp [results, Try.results35, go_sem, k3, k4, k5]) rfl ⟨A', c', rfl, ?_, ?_⟩
  · have ho := own_low (B := w.heap.size) hown (by simp; omega)
    have hne : ∀ k, (Value.slice A' n c').ownBlock = some k → w.heap.size + 2 ≤ k := fun k hk => by have := (hown.lt k hk).1; simp at this; omega
    refine ownsRow_setCell_other (ownsRow_setCell_other (ownsRow_setCell_other (ownsRow_setCell_other ho ?_ _) ?_ _) ?_ _) ?_ _ <;>
      (intro h; have := hne _ h; dsimp only at this; omega)
  · exact (((hb.setCell (Nat.le_refl _) _).setCell (by simp) _).setCell (by simp) _).setCell (by simp) _

theorem new2 (w : World) (o : Obj) (t : TypeId) (cs : Array Value) : Blk ((w.alloc o).alloc (.cells cs t)) (w.heap.size + 1) t cs := by
  have := Blk.new (w.alloc o) t cs
  simpa using this
/-! A builder of the call's own. -/
abbrev IsB (b : Nat) (l : List UInt8) (w : World) : Prop := Lib.IsBuilderF 81 5 b b (Lib.byteCells l) w
theorem IsB.lt {b : Nat} {l : List UInt8} {w : World} (h : IsB b l w) : b < w.heap.size := by
  rcases h with h | h
  · exact h.lt
  · exact h.lt
theorem bgrow_any (b n : Nat) (w : World) (hb : Blk w b 81 #[.pointer none, .slice none 0 0]) (hn : n ≤ 281474976710656) :
    Calls Try.prog 57 #[.pointer (some ⟨b, 0, none⟩), .int .i64 n] w fun e w' => e = .returned (.tuple #[]) ∧ IsB b [] w' ∧ Below b w w' := by
  have h := Any.Builder_Grow_fresh { Try.lays105 with } Try.Builder_Extra_105 b b n w (Nat.le_refl _) hb (Nat.le_of_lt hb.lt) hn
  exact h.mono fun _ _ ⟨he, h1, h2⟩ => ⟨he, Lib.IsBuilderF.of (.inr h1), h2⟩
theorem byteCells_append (l m : List UInt8) : Lib.byteCells (l ++ m) = Lib.byteCells l ++ Lib.byteCells m := by simp [Lib.byteCells]
theorem bwrite_any {b : Nat} {l : List UInt8} {w : World} (s : ByteArray) (h : IsB b l w) (hl : l.length + s.size ≤ 140737488355328) :
    Calls Try.prog 58 #[.pointer (some ⟨b, 0, none⟩), .string s] w fun e w' => e = .returned (.tuple #[.int .i64 s.size, .nilIface]) ∧ IsB b (l ++ s.data.toList) w' ∧ Below b w w' := by
  have hl' : (Lib.byteCells l).length + s.size ≤ 140737488355328 := by rw [Lib.byteCells_length]; exact hl
  have hc := Any.Builder_WriteString_k { Try.lays105 with } Try.Builder_Extra_105 b b _ s w h hl' (Nat.le_of_lt h.lt)
  refine hc.mono fun _ _ ⟨he, h1, h2, _⟩ => ⟨he, ?_, h2⟩
  show Lib.IsBuilderF _ _ _ _ (Lib.byteCells (l ++ s.data.toList)) _
  rw [byteCells_append]
  exact .inr h1
theorem bstring_any {b : Nat} {l : List UInt8} {w : World} (h : IsB b l w) :
    Calls Try.prog 59 #[.pointer (some ⟨b, 0, none⟩)] w fun e w' => e = .returned (.string ⟨l.toArray⟩) ∧ IsB b l w' ∧ Below b w w' := by
  have hc := Any.Builder_String_any_k { Try.lays105 with } Try.Builder_Extra_105 b b l w h (Nat.le_of_lt h.lt)
  exact hc.mono fun _ _ ⟨he, h1, h2, _⟩ => ⟨he, h1, h2⟩

/-- An element of a slice of strings, as the walk meets it. -/
theorem str_at {w : World} {B n j : Nat} {A : Option Addr} {l : List ByteArray} (h : Reads w B 1 A n (strs l)) (hj : j < n) :
    ∃ ad s, A = some ad ∧ ad.block < B ∧ l[j]? = some s ∧ w.cell? (ad.add j) = some (.string s) := by
  obtain ⟨ad, u, hA, hb, hu, hc⟩ := h.at_ hj
  rw [strs, List.getElem?_map] at hu
  obtain ⟨z, hz, rfl⟩ := Option.map_eq_some_iff.1 hu
  exact ⟨ad, z, hA, hb, hz, hc⟩
def flat (l : List ByteArray) : List UInt8 := l.flatMap fun p => p.data.toList
theorem flat_snoc (l : List ByteArray) (k : Nat) (s : ByteArray) (h : l[k]? = some s) : flat (l.take (k + 1)) = flat (l.take k) ++ s.data.toList := by
  have hk := (List.getElem?_eq_some_iff.1 h).1
  have e : l[k] = s := (List.getElem?_eq_some_iff.1 h).2
  unfold flat
  rw [List.take_succ_eq_append_getElem hk, List.flatMap_append, e]
  simp
theorem flat_take_le (size : Nat) (l : List ByteArray) (h : ∀ p ∈ l, p.size = size) (k : Nat) (hk : k ≤ l.length) : (flat (l.take k)).length = k * size := by
  have := flat_len size (l.take k) fun p hp => h p (List.mem_of_mem_take hp)
  unfold flat
  rw [this, List.length_take]
  congr 1
  omega

set_option maxRecDepth 100000 in
theorem bytes_any {w : World} {A : Option Addr} {n : Nat} {l : List ByteArray} (c : Nat) (z r : ByteArray) (hr : Reads w w.heap.size 1 A n (strs l)) (hn : n ≤ 1048576) (hz : z.size ≤ 4096) (hr4 : r.size ≤ 4096) (hl : ∀ p ∈ l, p.size = z.size) :
    Calls Try.prog 43 #[.agg #[.string z, .slice A n c, .string r]] w fun e w' => e = .returned (.string ⟨(Img.bytes ⟨l, r⟩).toArray⟩) ∧ Below w.heap.size w w' := by
  have hll : l.length = n := by have := hr.1; rw [strs_len] at this; omega
  have HLL := Lib.hid hll
  have HL := Lib.hid hl
  have hnz : n * z.size ≤ 1048576 * 4096 := Nat.mul_le_mul hn hz
  obtain ⟨N, hN⟩ : ∃ N : Nat, N = n * z.size + r.size := ⟨_, rfl⟩
  have hN1 : N ≤ 4294971392 := by omega
  have e1 : (n : Int) * (z.size : Int) + (r.size : Int) = ((N : Nat) : Int) := by rw [hN]; simp
  have HN := Lib.hid hN
  clear hll hl hN
  go_enter Try.func43, Try.ntmps43
  go_wp2_with (go_at_call 57
               refine (bgrow_any _ N _ (new2 _ _ _ _) (by omega)).mono ?_
               rintro e w1 ⟨rfl, hB, hb1⟩
               have h0 := ((Blk.new w _ _).alloc _).below hb1 (by simp)
               have k0 := h0.cell 0
               have k1 := h0.cell 1
               have k2 := h0.cell 2
               simp at k0 k1 k2)
  clear e1
  have hr1 : Reads w1 (w.heap.size + 1) 1 A n (strs l) := ((((hr.alloc (Nat.le_refl _) _).alloc (by simp) _).more (by omega)).below hb1)
  have hb : Below w.heap.size w w1 := (((Below.refl _ _).alloc (Nat.le_refl _) _).alloc (by simp) _).trans (hb1.mono (by omega))
  clear hr hb1
  go_loopw [21] (fun i wr => ∃ k : Nat, k ≤ n ∧ i = .int .i64 k ∧ IsB (w.heap.size + 1) (flat (l.take k)) wr ∧ Below (w.heap.size + 1) w1 wr) (fun i _ => n - (RowKit.intOf i).toNat)
  case atStart => exact ⟨0, Nat.zero_le _, rfl, by simpa [flat] using hB, Below.refl _ _⟩
  case round =>
    obtain ⟨k, hk, rfl, hBr, hbr⟩ := hrel
    by_cases hlt : k < n
    · obtain ⟨ad, s, rfl, hab, hs, hc⟩ := str_at (hr1.below hbr) hlt
      have HS := Lib.hid hs
      have hle : (flat (l.take k)).length + s.size ≤ 140737488355328 := by
        have h1 := flat_take_le z.size l HL.out k (by have := HLL.out; omega)
        have h2 := HL.out s (List.mem_of_getElem? hs)
        have h3 : k * z.size ≤ n * z.size := Nat.mul_le_mul_right _ hk
        omega
      clear hs
      go_wp2_with (go_at_call 58
                   refine (bwrite_any s hBr hle).mono ?_
                   rintro e w2 ⟨rfl, hB2, hb2⟩)
      go_roundw
      case rel =>
        refine ⟨k + 1, by omega, by go_num, ?_, hbr.trans hb2⟩
        rw [flat_snoc l k s HS.out]
        exact hB2
      case measure => simp [RowKit.intOf]; omega
    · have hkn : k = n := by omega
      subst hkn
      have h0' := h0.below hbr (by omega)
      have k2' := h0'.cell 2
      simp at k2'
      have hle : (flat (l.take k)).length + r.size ≤ 140737488355328 := by
        have h1 := flat_take_le z.size l HL.out k (by have := HLL.out; omega)
        omega
      go_wp2_with (first
        | (go_at_call 58
           refine (bwrite_any r hBr hle).mono ?_
           rintro e w2 ⟨rfl, hB2, hb2⟩)
        | (go_at_call 59
           refine (bstring_any hB2).mono ?_
           rintro e w3 ⟨rfl, hB3, hb3⟩))
      go_ret
      refine ⟨?_, hb.trans (((hbr.trans hb2).trans hb3).mono (by omega))⟩
      rw [List.take_of_length_le (by have := HLL.out; omega)]
      rfl

theorem blk_mid {w : World} {b : Nat} {t : TypeId} {x y z : Value} (h : Blk w b t #[x, y, z]) : w.cell? ⟨b, 1, none⟩ = some y ∧ w.frozen? ⟨b, 1, none⟩ = false :=
  ⟨by have := h.cell 1; simpa using this, h.frozen 1⟩

set_option maxRecDepth 100000 in
set_option maxHeartbeats 3200000 in
theorem cut_any (size : Nat) (s : ByteArray) (w : World) (g1 : 1 ≤ size) (g2 : size ≤ 4096) (hs : s.size / size ≤ 1048576) :
    Calls Try.prog 33 #[.int .i64 size, .string s] w fun e w' => ∃ A c, e = .returned (.agg #[.string (zs size), .slice A (s.size / size) c, .string (s.extract (s.size / size * size) s.size)]) ∧ w'.ownsRow w.heap.size 9 1 (.slice A (s.size / size) c) (s.size / size) (strs (cutUp size (s.size / size) s)) ∧ Below w.heap.size w w' := by
  obtain ⟨i0, hi0, hz0, hz1, hz2⟩ := info_parts infoStr
  have hdm := Nat.div_mul_le_self s.size size
  have hlt2 : s.size < s.size / size * size + size := by have := Nat.lt_div_mul_add (a := s.size) (b := size) (by omega); omega
  obtain ⟨m, hm⟩ : ∃ m, m = s.size / size := ⟨_, rfl⟩
  rw [← hm] at hs hdm hlt2 ⊢
  obtain ⟨M, hM⟩ : ∃ M, M = m * size := ⟨_, rfl⟩
  rw [← hM] at hdm hlt2 ⊢
  have e0 : (s.size : Int) / (size : Int) = (m : Int) := by rw [hm, Int.natCast_ediv]
  have e1 : (m : Int) * (size : Int) = (M : Int) := by rw [hM, Int.natCast_mul]
  have hMle : M ≤ 1048576 * 4096 := by rw [hM]; exact Nat.mul_le_mul hs g2
  have HM := Lib.hid hM
  have Hm := Lib.hid hm
  have HI := Lib.hid hi0
  have HZ := Lib.hid hz0
  have HZ1 := Lib.hid hz1
  have HZ2 := Lib.hid hz2
  clear hM hm hi0 hz0 hz1 hz2
  have hMs : (M : Int) ≤ s.size := by omega
  have hM0 : (0 : Int) ≤ M := by omega
  go_enter Try.func33, Try.ntmps33
  go_upto_region 2 with fail
  go_cut [6] (fun s6 wx => ∃ b, s6 = .pointer (some ⟨b, 0, none⟩) ∧ w.heap.size + 1 ≤ b ∧ Hid (Blk wx b 64 #[.string (zs size), .slice none 0 0, .string (s.extract M s.size)]) ∧ Hid (Blk wx w.heap.size 64 #[.string ⟨#[]⟩, .slice none 0 0, .string ⟨#[]⟩]) ∧ Hid (Below w.heap.size w wx))
  case first =>
    go_region_with (go_at_call 52
                    refine (repeat_zs size _ (by omega)).mono ?_
                    rintro e w1 ⟨rfl, hb1⟩
                    try (have h1 : Blk w1 (w.heap.size + 1) 64 #[.string ⟨#[]⟩, .slice none 0 0, .string ⟨#[]⟩] := (new2 w (.cells #[.string ⟨#[]⟩, .slice none 0 0, .string ⟨#[]⟩] 64) _ _).drew.below hb1 (by simp)
                         have k3 := h1.cell 0
                         have k4 := h1.cell 1
                         have k5 := h1.cell 2
                         have f3 := h1.frozen 0
                         have f4 := h1.frozen 1
                         have f5 := h1.frozen 2
                         simp at k3 k4 k5 f3 f4 f5))
    all_goals (go_wp2_with fail)
    all_goals go_meet
    · have hsz := hb1.size
      simp at hsz
      have hb : Below w.heap.size w w1 := ((Below.refl _ _).alloc (Nat.le_refl _) _).drew.trans (hb1.mono (by simp))
      refine ⟨w1.heap.size, rfl, by omega, Blk.new _ _ _, ?_, ?_⟩
      · exact (((Blk.new w 64 #[.string ⟨#[]⟩, .slice none 0 0, .string ⟨#[]⟩]).drew).below hb1 (by simp)).alloc _
      · exact hb.alloc hb.size _
    · have hb : Below w.heap.size w w1 := (((Below.refl _ _).alloc (Nat.le_refl _) _).alloc (by simp) _).drew.trans (hb1.mono (by simp; omega))
      refine ⟨w.heap.size + 1, rfl, by omega, ?_, ?_, ?_⟩
      · exact ((h1.set_ 0 _).set_ 1 _).set_ 2 _
      · exact (((((Blk.new w 64 #[.string ⟨#[]⟩, .slice none 0 0, .string ⟨#[]⟩]).alloc _).drew.below hb1 (by simp; omega)).far (by simp) _).far (by simp) _).far (by simp) _
      · exact ((hb.setCell (by simp) _).setCell (by simp) _).setCell (by simp) _
  case rest =>
    obtain ⟨b, rfl, hbb, HB, HR, HW⟩ := hcut
    clear e0 e1
    go_wp2_with fail
    go_loopw [7] (fun i wr => ∃ (k : Nat) (A : Option Addr) (c : Nat), k ≤ m ∧ i = .int .i64 ((k * size : Nat) : Int) ∧ Hid (Blk wr b 64 #[.string (zs size), .slice A k c, .string (s.extract M s.size)]) ∧ Hid (Blk wr w.heap.size 64 #[.string ⟨#[]⟩, .slice none 0 0, .string ⟨#[]⟩]) ∧ Hid (wr.ownsRow w.heap.size 9 1 (.slice A k c) k (strs (cutUp size k s))) ∧ Hid (Below w.heap.size w wr)) (fun i _ => M - (RowKit.intOf i).toNat)
    case atStart => exact ⟨0, none, 0, Nat.zero_le _, by simp, HB, HR, World.ownsRow_nil _ _ _ _, HW⟩
    case round =>
      clear HB HR HW
      obtain ⟨k, A, c, hk, rfl, HB, HR, HO, HW⟩ := hrel
      obtain ⟨K, hK⟩ : ∃ K, K = k * size := ⟨_, rfl⟩
      rw [← hK]
      have hKM : K ≤ M := by rw [hK, HM.out]; exact Nat.mul_le_mul_right _ hk
      by_cases hlt : k < m
      · have hK2 : K + size ≤ M := by
          have : (k + 1) * size ≤ m * size := Nat.mul_le_mul_right _ hlt
          rw [hK, HM.out]; rw [Nat.add_mul] at this; omega
        have HK := Lib.hid hK
        clear hK
        have a0 : (0 : Int) ≤ K := by omega
        have hKlt : K < M := by omega
        have q1 := HB.out.cell 1
        have fz := HB.out.frozen 1
        simp at q1
        have hown := HO.out
        have ag := own_ne_blk hown HB.out (by decide)
        have ar := own_ne_blk hown HR.out (by decide)
        have hwsz := HW.out.size
        have hblt := HB.out.lt
        obtain ⟨K2, hK2'⟩ : ∃ K2, K2 = K + size := ⟨_, rfl⟩
        have a1 : (K : Int) ≤ (K2 : Int) := by omega
        have a2 : (K2 : Int) ≤ s.size := by omega
        have a3 : (0 : Int) ≤ K2 := by omega
        have aw : IntKind.i64.wrap ((K : Int) + (size : Int)) = (K2 : Int) := by rw [IntKind.wrap_i64]; omega
        have HK2 := Lib.hid hK2'
        have hbg := HB.out.lt
        clear hK2'
        go_wp2_with fail
        have q2 : (((wr.alloc (.cells #[.string (s.extract K K2)] 9))).drew).cell? ⟨b, 1, none⟩ = some (.slice A k c) := (blk_mid (HB.out.alloc _).drew).1
        go_region_law
          ((refine step_append_lies _ (by rfl) _ _ _ (by rfl) w.heap.size 9 i0 _ 1 16 Try.underlying62 HI.out HZ.out HZ1.out HZ2.out rfl (by omega) (.slice A k c) k (strs (cutUp size k s)) (by rfl) ((hown.alloc _).drew)
              ⟨wr.heap.size, 0, none⟩ 1 1 [.string (s.extract K K2)] (by rfl) (by rfl) (World.news_of_block (cs := #[.string (s.extract K K2)]) (t := 9) (fr := (0, 0)) (heap_alloc_new wr _)) (by simp [Value.oneCell'])
              (by omega) (by unfold maxLen; omega) (by omega) (by simp; omega) (wr.heap.size + 1) (by simp) ?_; intro gg cap w1 hown1 hgrow hat hlt1; obtain ⟨q3, f3⟩ := blk_mid ((HB.out.alloc _).drew.grown hgrow (Ne.symm ag))))
        all_goals
          go_wp2_with fail
          go_roundw
          case rel =>
            have hlen : wr.heap.size ≤ w1.heap.size := by have := hgrow.size; simp at this; omega
            refine ⟨k + 1, some ⟨gg, 0, none⟩, cap, by omega, ?_, ?_, ?_, ?_, ?_⟩
            · rw [Nat.add_mul, Nat.one_mul, ← HK.out, HK2.out]
            · exact ((HB.out.alloc _).drew.grown hgrow (Ne.symm ag)).set_ 1 _
            · exact ((HR.out.alloc _).drew.grown hgrow (Ne.symm ar)).far (p := ⟨b, 1, none⟩) (by simp; omega) _
            · have h1 : w1.ownsRow w.heap.size 9 1 (.slice (some ⟨gg, 0, none⟩) (k + 1) cap) (k + 1) (strs (cutUp size (k + 1) s)) := by
                rw [cutUp_snoc, strs_append, ← HK.out, ← HK2.out]
                exact hown1
              have h2 := own_ne_blk h1 ((HB.out.alloc _).drew.grown hgrow (Ne.symm ag)) (by decide)
              exact ownsRow_setCell_other h1 h2 _
            · exact (((HW.out.alloc hwsz _).drew.grown hgrow (by simp; omega) (fun g hg => (hown.lt g hg).1))).setCell (by simp; omega) _
          case measure => clear aw; have := HK2.out; simp [RowKit.intOf]; omega
      · have hkm : k = m := by omega
        subst hkm
        have hKM2 : K = M := by rw [hK, HM.out]
        subst hKM2
        have q0 := HB.out.cell 0
        have q1 := HB.out.cell 1
        have q2 := HB.out.cell 2
        have r0 := HR.out.cell 0
        have r1 := HR.out.cell 1
        have r2 := HR.out.cell 2
        have f0 := HR.out.frozen 0
        have f1 := HR.out.frozen 1
        have f2 := HR.out.frozen 2
        simp at q0 q1 q2 r0 r1 r2
        have ar := own_ne_blk HO.out HR.out (by decide)
        clear hK hlt
        go_wp2_with fail
        refine bodyPost_ret (v := .agg #[.string (zs size), .slice A k c, .string (s.extract K s.size)]) (by simp [results, Try.results33, go_sem, r0, r1, r2]) rfl ⟨A, c, rfl, ?_, ?_⟩
        · exact ownsRow_setCell_other (ownsRow_setCell_other (ownsRow_setCell_other HO.out ar _) ar _) ar _
        · exact ((HW.out.setCell (Nat.le_refl _) _).setCell (Nat.le_refl _) _).setCell (Nat.le_refl _) _
end Go.Proofs.Ytmkejkmgpigmhaa
