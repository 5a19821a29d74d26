/-
  Contracts of a device's Sync and Crash, each with its conditions in its own statement.
-/
import Derived.Test.YtmkejkmgpigmhaaDevOps
namespace Go.Proofs.Ytmkejkmgpigmhaa
open Go.RowKit
open Go.Lib hiding intOf
set_option linter.unusedVariables false
set_option linter.unusedSimpArgs false

section
variable {w w' : World} {F G : Nat → Prop} {g : Nat} {S : DevS} {m1 m2 : Img} {A1 : Option Addr} {n1 c1 : Nat} {A2 : Option Addr} {n2 c2 : Nat} {A3 : Option Addr} {n3 c3 : Nat} {X : Nat → Prop} {pc : List Value}
theorem DevAt.wide (h : DevAt w F g S m1 m2 A1 n1 c1 A2 n2 c2 A3 n3 c3 X pc) (hG : ∀ k, F k → G k) (hlt : ∀ k, G k → k < w.heap.size) : DevAt w G g S m1 m2 A1 n1 c1 A2 n2 c2 A3 n3 c3 X pc :=
  { h with Fg := hG _ h.Fg, F1 := fun k e => ⟨hG _ (h.F1 k e).1, (h.F1 k e).2⟩, F2 := fun k e => ⟨hG _ (h.F2 k e).1, (h.F2 k e).2⟩, F3 := fun k e => ⟨hG _ (h.F3 k e).1, (h.F3 k e).2⟩, FX := fun k e => hG _ (h.FX k e), Flt := hlt }
theorem DevAt.dev (h : DevAt w F g S m1 m2 A1 n1 c1 A2 n2 c2 A3 n3 c3 X pc) : Dev w F g S := ⟨_, _, _, _, _, _, _, _, _, _, _, _, _, h⟩
theorem DevAt.clear (h : DevAt w F g S m1 m2 A1 n1 c1 A2 n2 c2 A3 n3 c3 X pc) :
    DevAt (w.setCell ⟨g, 9, none⟩ (.slice none 0 0)) F g { S with pend := [] } m1 m2 A1 n1 c1 A2 n2 c2 none 0 0 X [] :=
  { h with
    blk := h.blk.set_ 9 _
    own1 := ownsRow_setCell_other h.own1 h.ne1 _
    own2 := ownsRow_setCell_other h.own2 h.ne2 _
    own3 := World.ownsRow_nil _ _ _ _
    np := rfl
    each := fun j o hj => by simp at hj
    few := Nat.zero_le _
    F3 := fun k hk => by simp [Value.ownBlock] at hk
    Flt := fun k hk' => by have := h.Flt k hk'; simpa [World.setCell] using this }
theorem grow_grow {w1 w2 w3 : World} (h1 : w1.heap.size ≤ w2.heap.size) (h2 : w2.heap.size ≤ w3.heap.size) : ∀ k, Grow (Grow F w1 w2) w2 w3 k → Grow F w1 w3 k := by
  rintro k ((h | ⟨ha, hb⟩) | ⟨ha, hb⟩)
  · exact .inl h
  · exact .inr ⟨ha, by omega⟩
  · exact .inr ⟨by omega, hb⟩
theorem grow_kept {w1 w2 w3 : World} (h1 : Kept F w1 w2) (h2 : Kept (Grow F w1 w2) w2 w3) : Kept F w1 w3 := h1.then h2 (by
  rintro i (h | ⟨h, _⟩)
  · exact .inl h
  · exact .inr h)
/-- The j-th pending operation, as the walk meets it. -/
theorem DevAt.op (h : DevAt w F g S m1 m2 A1 n1 c1 A2 n2 c2 A3 n3 c3 X pc) {j : Nat} (hj : j < n3) :
    ∃ g3 o fv, A3 = some ⟨g3, 0, none⟩ ∧ S.pend[j]? = some o ∧ o.ok S.size S.cap ∧ w.cell? ⟨g3, j, none⟩ = some fv ∧ IsOp w X fv o := by
  have hjl : j < S.pend.length := by rw [← h.np]; exact hj
  obtain ⟨hok, fv, hfv, hop⟩ := h.each j _ (List.getElem?_eq_getElem hjl)
  obtain ⟨gg, cap, hvv, _, hlt⟩ := h.own3.form (by omega)
  injection hvv with e1 e2 e3
  subst e1
  exact ⟨gg, _, fv, rfl, List.getElem?_eq_getElem hjl, hok, by rw [h.own3.cellAt j (by omega), hfv], hop⟩
end
theorem allOn_take (size : Nat) (l : List POp) (j : Nat) (o : POp) (d : List UInt8) (h : l[j]? = some o) : allOn size (l.take (j + 1)) d = o.on size (allOn size (l.take j) d) := by
  have hj := (List.getElem?_eq_some_iff.1 h).1
  have e : l[j] = o := (List.getElem?_eq_some_iff.1 h).2
  rw [List.take_succ_eq_append_getElem hj, allOn_snoc, e]

theorem dsync_no {w : World} {F : Nat → Prop} {g : Nat} {S : DevS} (h : Dev w F g S) (hf : S.fuse = 0) :
    Calls Try.prog 17 #[.pointer (some ⟨g, 0, none⟩)] w fun e w' => e = .returned (.int .i64 8) ∧ w = w' := by
  have hv := dvalid_yes h
  have hs := dstart_no h hf
  have HF := Lib.hid hf
  clear hf
  go_enter Try.func17, Try.ntmps17
  go_wp2_with (first
    | (go_at_call 36; refine hv.mono ?_; rintro e w' ⟨rfl, rfl⟩)
    | (go_at_call 42; refine hs.mono ?_; rintro e w' ⟨rfl, rfl⟩))
  go_ret
  exact ⟨rfl, rfl⟩

set_option maxHeartbeats 1600000 in
theorem dsync_yes {w : World} {F : Nat → Prop} {g : Nat} {S : DevS} (h : Dev w F g S) (hf : S.fuse ≠ 0) (hlo : -9223372036854775808 ≤ S.fuse) (hhi : S.fuse ≤ 9223372036854775807) (hops : S.ops ≤ 4294967296) :
    Calls Try.prog 17 #[.pointer (some ⟨g, 0, none⟩)] w fun e w' => e = .returned (.int .i64 0) ∧
      Dev w' (Grow F w w') g { S with dur := allOn S.size S.pend S.dur, pend := [], fuse := burn S.fuse, ops := S.ops + 1 } ∧ Kept F w w' := by
  have hv := dvalid_yes h
  obtain ⟨m1, m2, A1, n1, c1, A2, n2, c2, A3, n3, c3, X, pc, h⟩ := h
  have hs := dstart_yes h hf hlo hhi hops
  have HF := Lib.hid hf
  have hn3 : n3 ≤ 4294967296 := by have := h.np; have := h.few; omega
  have HP := Lib.hid h.np
  clear hf
  go_enter Try.func17, Try.ntmps17
  go_wp2_with (first
    | (go_at_call 36; refine hv.mono ?_; rintro e w' ⟨rfl, rfl⟩)
    | (go_at_call 42
       refine hs.mono ?_
       rintro e w1 ⟨rfl, h1, hk1⟩
       obtain ⟨_, _, _, _, _, _, _, _, _, k9, _⟩ := dev_cells h1.blk))
  clear k9
  go_loopw [16] (fun i wr => ∃ (j : Nat) (m2' : Img) (A : Option Addr) (n c : Nat), j ≤ n3 ∧ i = .int .i64 j ∧ Hid (DevAt wr (Grow F w1 wr) g { S with dur := allOn S.size (S.pend.take j) S.dur, fuse := burn S.fuse, ops := S.ops + 1 } m1 m2' A1 n1 c1 A n c A3 n3 c3 X pc) ∧ Hid (Kept F w1 wr)) (fun i _ => n3 - (RowKit.intOf i).toNat)
  case atStart => exact ⟨0, m2, A2, n2, c2, Nat.zero_le _, rfl, h1.wide (fun k hk => .inl hk) (grow_lt h1.Flt (Nat.le_refl _)), Kept.refl _ _⟩
  case round =>
    obtain ⟨j, m2', A, n, c, hj, rfl, HD, HK⟩ := hrel
    by_cases hlt : j < n3
    · obtain ⟨g3, o, fv, hA3, hoj, hok, q3, hop⟩ := HD.out.op hlt
      subst hA3
      have HO := Lib.hid hoj
      clear hoj
      have b0 : (0 : Int) ≤ j := by omega
      have b1 : (j : Int) < n3 := by omega
      have hr2 : (RowKit.intOf (.int .i64 (j : Int))).toNat = j := by simp [RowKit.intOf]
      cases o with
      | wr k b =>
        obtain ⟨x, y, rfl, hx, hy, hXx, hXy⟩ := hop
        clear hr2
        go_wp2_with (go_at_call 38
                     refine (closw_any HD.out.img2 (by decide) HD.out.good2 HD.out.hi k b (by have := hok.1; have := HD.out.capHi; omega) (by have := HD.out.len2; have := HD.out.p2; have := HD.out.capHi; omega) hx hy).mono ?_
                     rintro e w2 ⟨rfl, hd⟩)
        go_roundw
        case rel =>
          obtain ⟨A', n', c', h2, hk2⟩ := HD.out.done2 (o := .wr k b) hok hd
          refine ⟨j + 1, m2'.does S.size (.wr k b), A', n', c', by omega, by go_num, ?_, grow_kept HK.out hk2⟩
          refine Lib.hid ?_
          rw [allOn_take _ _ _ _ _ HO.out]
          exact h2.wide (grow_grow HK.out.size hk2.size) (grow_lt h1.Flt (Nat.le_trans HK.out.size hk2.size))
        case measure => simp [RowKit.intOf]; omega
      | tr k =>
        obtain ⟨x, rfl, hx, hXx⟩ := hop
        clear hr2
        go_wp2_with (go_at_call 40
                     refine (clost_any HD.out.img2 (by decide) k (Nat.le_trans hok HD.out.capHi) (by have := HD.out.len2; have := HD.out.p2; have := HD.out.capHi; omega) hx).mono ?_
                     rintro e w2 ⟨rfl, hd⟩)
        go_roundw
        case rel =>
          obtain ⟨A', n', c', h2, hk2⟩ := HD.out.done2 (o := .tr k) hok hd
          refine ⟨j + 1, m2'.does S.size (.tr k), A', n', c', by omega, by go_num, ?_, grow_kept HK.out hk2⟩
          refine Lib.hid ?_
          rw [allOn_take _ _ _ _ _ HO.out]
          exact h2.wide (grow_grow HK.out.size hk2.size) (grow_lt h1.Flt (Nat.le_trans HK.out.size hk2.size))
        case measure => simp [RowKit.intOf]; omega
    · obtain rfl : j = n3 := by omega
      obtain ⟨_, _, _, _, _, _, _, _, _, k9, _⟩ := dev_cells HD.out.blk
      have f9 := HD.out.blk.frozen 9
      have h3 := HD.out.clear
      have H3 := Lib.hid h3
      clear h3
      go_wp2_with fail
      go_ret
      have hk2 := hk1.trans HK.out
      refine ⟨rfl, ?_, hk2.setCell (.inl h.Fg) _⟩
      have e : S.pend.take j = S.pend := List.take_of_length_le (by rw [← HP.out]; exact Nat.le_refl _)
      have h4 := H3.out
      rw [e] at h4
      refine (h4.wide ?_ (grow_lt h.Flt (by have := hk2.size; simpa [World.setCell] using this))).dev
      rintro k (h5 | ⟨h5, h6⟩)
      · exact .inl h5
      · exact .inr ⟨Nat.le_trans hk1.size h5, by simpa [World.setCell] using h6⟩

/-- The durable bytes behind the first j pending operations, of which those are applied whose numbers are kept. -/
def keepUp (size : Nat) (keep : List Int) (pend : List POp) (d : List UInt8) : Nat → List UInt8
  | 0 => d
  | j + 1 => match pend[j]? with
    | some o => if keep.contains (j : Int) then o.on size (keepUp size keep pend d j) else keepUp size keep pend d j
    | none => keepUp size keep pend d j
theorem keepUp_yes {size : Nat} {keep : List Int} {pend : List POp} {d : List UInt8} {j : Nat} {o : POp} (h : pend[j]? = some o) (hk : keep.contains (j : Int) = true) : keepUp size keep pend d (j + 1) = o.on size (keepUp size keep pend d j) := by
  simp only [keepUp, h, hk, if_true]
theorem keepUp_no {size : Nat} {keep : List Int} {pend : List POp} {d : List UInt8} {j : Nat} (hk : keep.contains (j : Int) = false) : keepUp size keep pend d (j + 1) = keepUp size keep pend d j := by
  simp only [keepUp, hk]
  cases pend[j]? <;> simp

section
variable {w w' : World} {F G : Nat → Prop} {g : Nat} {S : DevS} {m1 m2 : Img} {A1 : Option Addr} {n1 c1 : Nat} {A2 : Option Addr} {n2 c2 : Nat} {A3 : Option Addr} {n3 c3 : Nat} {X : Nat → Prop} {pc : List Value}
/-- What the copy of the durable bytes into the image leaves of the device. -/
theorem DevAt.copied (h : DevAt w F g S m1 m2 A1 n1 c1 A2 n2 c2 A3 n3 c3 X pc) {w2 : World} {A' : Option Addr} {c' : Nat} (hb : Below w.heap.size w w2) (hown : w2.ownsRow w.heap.size 9 1 (.slice A' n2 c') n2 (strs m2.pages)) :
    DevAt (((w2.setCell ⟨g, 3, none⟩ (.string (zs S.size))).setCell ⟨g, 4, none⟩ (.slice A' n2 c')).setCell ⟨g, 5, none⟩ (.string m2.rest)) (Grow F w (((w2.setCell ⟨g, 3, none⟩ (.string (zs S.size))).setCell ⟨g, 4, none⟩ (.slice A' n2 c')).setCell ⟨g, 5, none⟩ (.string m2.rest))) g { S with img := S.dur } m2 m2 A' n2 c' A2 n2 c2 A3 n3 c3 X pc ∧
    Kept F w (((w2.setCell ⟨g, 3, none⟩ (.string (zs S.size))).setCell ⟨g, 4, none⟩ (.slice A' n2 c')).setCell ⟨g, 5, none⟩ (.string m2.rest)) := by
  have hb2 := h.blk.below hb h.blk.lt
  have hk : Kept (fun k => k = g) w (((w2.setCell ⟨g, 3, none⟩ (.string (zs S.size))).setCell ⟨g, 4, none⟩ (.slice A' n2 c')).setCell ⟨g, 5, none⟩ (.string m2.rest)) :=
    Kept.setCell (F := fun k => k = g) (Kept.setCell (F := fun k => k = g) (Kept.setCell (F := fun k => k = g) (Kept.of_new hb) (.inl rfl) _) (.inl rfl) _) (.inl rfl) _
  have hkF : Kept F w _ := hk.mono (by rintro k rfl; exact h.Fg)
  have hgl := h.blk.lt
  have hne : (Value.slice A' n2 c').ownBlock ≠ some g := fun e => by have := (hown.lt g e).1; omega
  have hszs : (((w2.setCell ⟨g, 3, none⟩ (.string (zs S.size))).setCell ⟨g, 4, none⟩ (.slice A' n2 c')).setCell ⟨g, 5, none⟩ (.string m2.rest)).heap.size = w2.heap.size := by simp [World.setCell]
  have hown0 : w2.ownsRow 0 9 1 (.slice A' n2 c') n2 (strs m2.pages) := own_base hown
  refine ⟨{ h with
    blk := ((hb2.set_ 3 _).set_ 4 _).set_ 5 _
    own1 := ownsRow_setCell_other (ownsRow_setCell_other (ownsRow_setCell_other hown0 hne _) hne _) hne _
    own2 := hk.own h.own2 (by rintro k e rfl; exact h.ne2 e)
    own3 := hk.own h.own3 (by rintro k e rfl; exact h.ne3 e)
    good1 := h.good2
    b1 := h.b2
    p1 := h.p2
    each := fun j o hj => by
      obtain ⟨h1, fv, h2, h3⟩ := h.each j o hj
      exact ⟨h1, fv, h2, h3.kept hk (by rintro k hx rfl; exact h.gX hx)⟩
    Fg := .inl h.Fg
    F1 := fun k e => ?_
    F2 := fun k e => ⟨.inl (h.F2 k e).1, (h.F2 k e).2⟩
    F3 := fun k e => ⟨.inl (h.F3 k e).1, (h.F3 k e).2⟩
    FX := fun k e => .inl (h.FX k e)
    apart := fun k e e2 => by have := (hown.lt k e).1; have := (h.own2.lt k e2).2; omega
    Flt := grow_lt h.Flt hk.size }, hkF⟩
  have hl := hown.lt k e
  exact ⟨.inr ⟨hl.1, by rw [hszs]; exact hl.2⟩, fun hx => by have := h.Flt k (h.FX k hx); omega⟩
end

set_option maxHeartbeats 3200000 in
theorem dcrash_any {w : World} {F : Nat → Prop} {g : Nat} {S : DevS} (h : Dev w F g S) (hops : S.ops ≤ 4294967296) {Ak : Option Addr} {nk : Nat} (ck : Nat) {keep : List Int} (hr : Reads w w.heap.size 1 Ak nk (keep.map (Value.int .i64))) (hnk : nk ≤ maxLen) (hk : ∀ a, Ak = some a → ¬ F a.block) :
    Calls Try.prog 19 #[.pointer (some ⟨g, 0, none⟩), .slice Ak nk ck] w fun e w' => e = .returned (.int .i64 0) ∧
      Dev w' (Grow F w w') g { S with img := keepUp S.size keep S.pend S.dur S.pend.length, dur := keepUp S.size keep S.pend S.dur S.pend.length, pend := [], fuse := -1 } ∧ Kept F w w' := by
  have hv := dvalid_yes h
  obtain ⟨m1, m2, A1, n1, c1, A2, n2, c2, A3, n3, c3, X, pc, h⟩ := h
  have hn3 : n3 ≤ 4294967296 := by have := h.np; have := h.few; omega
  have HP := Lib.hid h.np
  obtain ⟨_, _, _, _, _, _, _, _, _, k9, _⟩ := dev_cells h.blk
  go_enter Try.func19, Try.ntmps19
  go_wp2_with (go_at_call 36; refine hv.mono ?_; rintro e w' ⟨rfl, rfl⟩)
  clear k9
  go_loopw [15] (fun i wr => ∃ (j : Nat) (m2' : Img) (A : Option Addr) (n c : Nat), j ≤ n3 ∧ i = .int .i64 j ∧ Hid (DevAt wr (Grow F w wr) g { S with dur := keepUp S.size keep S.pend S.dur j } m1 m2' A1 n1 c1 A n c A3 n3 c3 X pc) ∧ Hid (Kept F w wr)) (fun i _ => n3 - (RowKit.intOf i).toNat)
  case atStart => exact ⟨0, m2, A2, n2, c2, Nat.zero_le _, rfl, h.wide (fun k hk => .inl hk) (grow_lt h.Flt (Nat.le_refl _)), Kept.refl _ _⟩
  case round =>
    obtain ⟨j, m2', A, n, c, hj, rfl, HD, HK⟩ := hrel
    by_cases hlt : j < n3
    · obtain ⟨g3, o, fv, hA3, hoj, hok, q3, hop⟩ := HD.out.op hlt
      subst hA3
      have HO := Lib.hid hoj
      clear hoj
      have b0 : (0 : Int) ≤ j := by omega
      have b1 : (j : Int) < n3 := by omega
      have hr1 := HK.out.reads hr (Nat.le_refl _) hk
      by_cases hin : keep.contains (j : Int) = true
      · have HIN := Lib.hid hin
        cases o with
        | wr k b =>
          obtain ⟨x, y, rfl, hx, hy, hXx, hXy⟩ := hop
          go_wp2_with (first
            | (go_at_call 44
               refine (contains_any ck (j : Int) hr1 hnk).mono ?_
               rw [hin]
               rintro e w2 ⟨rfl, rfl⟩)
            | (go_at_call 38
               refine (closw_any HD.out.img2 (by decide) HD.out.good2 HD.out.hi k b (Nat.lt_of_lt_of_le hok.1 HD.out.capHi) (by have := HD.out.len2; have := HD.out.p2; have := HD.out.capHi; omega) hx hy).mono ?_
               rintro e w2 ⟨rfl, hd⟩))
          go_roundw
          case rel =>
            obtain ⟨A', n', c', h2, hk2⟩ := HD.out.done2 (o := .wr k b) hok hd
            refine ⟨j + 1, m2'.does S.size (.wr k b), A', n', c', by omega, by go_num, ?_, grow_kept HK.out hk2⟩
            refine Lib.hid ?_
            rw [keepUp_yes HO.out HIN.out]
            exact h2.wide (grow_grow HK.out.size hk2.size) (grow_lt h.Flt (Nat.le_trans HK.out.size hk2.size))
          case measure => simp [RowKit.intOf]; omega
        | tr k =>
          obtain ⟨x, rfl, hx, hXx⟩ := hop
          go_wp2_with (first
            | (go_at_call 44
               refine (contains_any ck (j : Int) hr1 hnk).mono ?_
               rw [hin]
               rintro e w2 ⟨rfl, rfl⟩)
            | (go_at_call 40
               refine (clost_any HD.out.img2 (by decide) k (Nat.le_trans hok HD.out.capHi) (by have := HD.out.len2; have := HD.out.p2; have := HD.out.capHi; omega) hx).mono ?_
               rintro e w2 ⟨rfl, hd⟩))
          go_roundw
          case rel =>
            obtain ⟨A', n', c', h2, hk2⟩ := HD.out.done2 (o := .tr k) hok hd
            refine ⟨j + 1, m2'.does S.size (.tr k), A', n', c', by omega, by go_num, ?_, grow_kept HK.out hk2⟩
            refine Lib.hid ?_
            rw [keepUp_yes HO.out HIN.out]
            exact h2.wide (grow_grow HK.out.size hk2.size) (grow_lt h.Flt (Nat.le_trans HK.out.size hk2.size))
          case measure => simp [RowKit.intOf]; omega
      · have hin2 : keep.contains (j : Int) = false := by simpa using hin
        have HIN := Lib.hid hin2
        clear hin
        go_wp2_with (go_at_call 44
                     refine (contains_any ck (j : Int) hr1 hnk).mono ?_
                     rw [hin2]
                     rintro e w2 ⟨rfl, rfl⟩)
        go_roundw
        case rel =>
          refine ⟨j + 1, m2', A, n, c, by omega, by go_num, ?_, HK⟩
          refine Lib.hid ?_
          rw [keepUp_no HIN.out]
          exact HD.out
        case measure => simp [RowKit.intOf]; omega
    · obtain rfl : j = n3 := by omega
      obtain ⟨_, _, _, k3, k4, k5, k6, k7, k8, _⟩ := dev_cells HD.out.blk
      have hl2 := HD.out.len2
      have hp2 := HD.out.p2
      have hcap := HD.out.capHi
      have HL := Lib.hid hl2
      have hn2 : n ≤ 4294967296 := by omega
      clear hl2
      go_wp2_with (go_at_call 35
                   refine (iclone_any c (zs S.size) m2'.rest (read_of_own HD.out.own2 (Nat.le_refl _)) hn2).mono ?_
                   rintro e w2 ⟨A', c', rfl, hown, hb2⟩
                   have hbk := HD.out.blk.below hb2 HD.out.blk.lt
                   obtain ⟨_, _, _, j3, j4, j5, _, _, _, j9, j10, _⟩ := dev_cells hbk
                   have f3 := hbk.frozen 3
                   have f4 := hbk.frozen 4
                   have f5 := hbk.frozen 5
                   have f9 := hbk.frozen 9
                   have f10 := hbk.frozen 10)
      go_ret
      have h3 := HD.out.copied hb2 hown
      have h4 := h3.1.clear
      have h5 := h4.store (S' := { S with img := keepUp S.size keep S.pend S.dur S.pend.length, dur := keepUp S.size keep S.pend S.dur S.pend.length, pend := [], fuse := -1 }) 10 (.int .i64 (-1)) (by rw [← HP.out]; rfl) rfl rfl (by rw [← HP.out]) (by rw [← HP.out]) rfl (Nat.le_refl _)
      have hkk := (grow_kept HK.out h3.2)
      refine ⟨rfl, (h5.wide ?_ (grow_lt h.Flt (by have := hkk.size; simpa [World.setCell] using this))).dev, (hkk.setCell (.inl h.Fg) _).setCell (.inl h.Fg) _⟩
      have hz := h3.2.size
      intro k h6
      have h7 := grow_grow HK.out.size hz k h6
      rcases h7 with h7 | ⟨h7, h8⟩
      · exact .inl h7
      · exact .inr ⟨h7, by simpa [World.setCell] using h8⟩
end Go.Proofs.Ytmkejkmgpigmhaa
