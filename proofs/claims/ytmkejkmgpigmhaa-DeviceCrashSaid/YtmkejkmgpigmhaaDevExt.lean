/-
  The contract of package device's extend (an image grows by pages of zero bytes), with its conditions in its own statement; words for images that lie in a block.
-/
import Derived.Test.YtmkejkmgpigmhaaDevImg
import Derived.Deep.LoopGhost
import Derived.Deep.DrawnRows
namespace Go.Proofs.Ytmkejkmgpigmhaa
open Go.RowKit
open Go.Lib hiding intOf
set_option linter.unusedVariables false
set_option linter.unusedSimpArgs false

attribute [local go_sem ↓] Go.wp_at_zero Go.wp_at_succ
/-- An image in the cells off, off + 1, off + 2 of block g. -/
structure ImgIn (w : World) (g off : Nat) (t : TypeId) (cs : Array Value) (size : Nat) (A : Option Addr) (n c : Nat) (m : Img) : Prop where
  blk : Blk w g t cs
  z : cs[off]? = some (.string (zs size))
  p : cs[off + 1]? = some (.slice A n c)
  r : cs[off + 2]? = some (.string m.rest)
  own : w.ownsRow 0 9 1 (.slice A n c) n (strs m.pages)
/-- Cells of a block that are as they were, but for an image's pages and rest. -/
def Rest3 (off : Nat) (cs cs' : Array Value) : Prop := cs'.size = cs.size ∧ ∀ i, i ≠ off + 1 → i ≠ off + 2 → cs'[i]? = cs[i]?
/-- Only block g and the row that v owned have turned, besides what is new; v' owns that row or a new one. -/
def Step (g : Nat) (v v' : Value) (w w' : World) : Prop := Kept (fun k => k = g ∨ v.ownBlock = some k) w w' ∧ (∀ k, v'.ownBlock = some k → v.ownBlock = some k ∨ w.heap.size ≤ k)
theorem Rest3.refl (off : Nat) (cs : Array Value) : Rest3 off cs cs := ⟨rfl, fun _ _ _ => rfl⟩
theorem Rest3.trans {off : Nat} {a b c : Array Value} (h : Rest3 off a b) (k : Rest3 off b c) : Rest3 off a c := ⟨k.1.trans h.1, fun i h1 h2 => (k.2 i h1 h2).trans (h.2 i h1 h2)⟩
theorem Rest3.set1 (off : Nat) (cs : Array Value) (v : Value) : Rest3 off cs (cs.setIfInBounds (off + 1) v) := ⟨by simp, fun i h1 h2 => by rw [Array.getElem?_setIfInBounds, if_neg (fun h => h1 h.symm)]⟩
theorem Rest3.set2 (off : Nat) (cs : Array Value) (v : Value) : Rest3 off cs (cs.setIfInBounds (off + 2) v) := ⟨by simp, fun i h1 h2 => by rw [Array.getElem?_setIfInBounds, if_neg (fun h => h2 h.symm)]⟩
theorem Step.refl (g : Nat) (v : Value) (w : World) : Step g v v w w := ⟨Kept.refl _ _, fun k h => .inl h⟩
theorem Step.trans {g : Nat} {v v' v'' : Value} {w w' w'' : World} (h : Step g v v' w w') (k : Step g v' v'' w' w'') : Step g v v'' w w'' := by
  refine ⟨h.1.then k.1 ?_, fun i hi => ?_⟩
  · rintro i (rfl | hi)
    · exact .inl (.inl rfl)
    · rcases h.2 i hi with h1 | h1
      · exact .inl (.inr h1)
      · exact .inr h1
  · rcases k.2 i hi with h1 | h1
    · exact h.2 i h1
    · exact .inr (Nat.le_trans h.1.size h1)
theorem Step.set {g : Nat} {v v' : Value} {w w' : World} (h : Step g v v' w w') (i : Nat) (u : Value) : Step g v v' w (w'.setCell ⟨g, i, none⟩ u) := ⟨h.1.setCell (.inl (.inl rfl)) u, h.2⟩
theorem set_at {cs : Array Value} {i : Nat} {x : Value} (h : cs[i]? = some x) (v : Value) : (cs.setIfInBounds i v)[i]? = some v := by
  have := (Array.getElem?_eq_some_iff.1 h).1
  rw [Array.getElem?_setIfInBounds, if_pos rfl, if_pos this]
theorem set_ne {cs : Array Value} {i j : Nat} (h : i ≠ j) (v : Value) : (cs.setIfInBounds i v)[j]? = cs[j]? := by
  rw [Array.getElem?_setIfInBounds, if_neg h]

section
variable {w : World} {g off size n c : Nat} {t : TypeId} {cs : Array Value} {A : Option Addr} {m : Img}
theorem ImgIn.len (h : ImgIn w g off t cs size A n c m) : n = m.pages.length := by have := h.own.1; rw [strs_len] at this; omega
theorem ImgIn.cells (h : ImgIn w g off t cs size A n c m) : w.cell? ⟨g, off, none⟩ = some (.string (zs size)) ∧ w.cell? ⟨g, off + 1, none⟩ = some (.slice A n c) ∧ w.cell? ⟨g, off + 2, none⟩ = some (.string m.rest) :=
  ⟨(h.blk.cell off).trans h.z, (h.blk.cell (off + 1)).trans h.p, (h.blk.cell (off + 2)).trans h.r⟩
/-- Behind an append of one page and the store of what it gave. -/
theorem ImgIn.more {w1 w2 : World} {gg cap : Nat} {s : ByteArray} (h : ImgIn w g off t cs size A n c m) (ht : t ≠ 9)
    (hown : w2.ownsRow 0 9 1 (.slice (some ⟨gg, 0, none⟩) (n + 1) cap) (n + 1) (strs m.pages ++ [.string s])) (h1 : Below w.heap.size w w1) (hg : w1.grownBy w2 (Value.slice A n c).ownBlock)
    (hat : (Value.slice A n c).ownBlock = some gg ∨ w.heap.size ≤ gg) :
    ImgIn (w2.setCell ⟨g, off + 1, none⟩ (.slice (some ⟨gg, 0, none⟩) (n + 1) cap)) g off t (cs.setIfInBounds (off + 1) (.slice (some ⟨gg, 0, none⟩) (n + 1) cap)) size (some ⟨gg, 0, none⟩) (n + 1) cap ⟨m.pages ++ [s], m.rest⟩ ∧
    Step g (.slice A n c) (.slice (some ⟨gg, 0, none⟩) (n + 1) cap) w (w2.setCell ⟨g, off + 1, none⟩ (.slice (some ⟨gg, 0, none⟩) (n + 1) cap)) := by
  have ag := own_ne_blk h.own h.blk (fun e => ht e.symm)
  have hb2 : Blk w2 g t cs := (h.blk.below h1 h.blk.lt).grown hg (Ne.symm ag)
  have hne := own_ne_blk hown hb2 (fun e => ht e.symm)
  refine ⟨⟨hb2.set_ _ _, ?_, ?_, ?_, ?_⟩, ?_, ?_⟩
  · rw [set_ne (by omega)]; exact h.z
  · exact set_at h.p _
  · rw [set_ne (by omega)]; exact h.r
  · have : strs (m.pages ++ [s]) = strs m.pages ++ [.string s] := by simp [strs]
    show World.ownsRow _ 0 _ 1 _ (n + 1) (strs (m.pages ++ [s]))
    rw [this]
    exact ownsRow_setCell_other hown hne _
  · exact ((Kept.of_new h1).grown hg fun k hk => .inl (.inr hk)).setCell (.inl (.inl rfl)) _
  · intro k hk
    have : gg = k := by simpa [Value.ownBlock] using hk
    subst this
    exact hat

theorem img_cells {w1 : World} {o : Obj} (h : ImgIn w g off t cs size A n c m) (ht : t ≠ 9) (hg : (w.alloc o).drew.grownBy w1 (Value.slice A n c).ownBlock) :
    w1.cell? ⟨g, off, none⟩ = some (.string (zs size)) ∧ w1.cell? ⟨g, off + 1, none⟩ = some (.slice A n c) ∧ w1.cell? ⟨g, off + 2, none⟩ = some (.string m.rest) ∧ w1.frozen? ⟨g, off + 1, none⟩ = false ∧ w1.frozen? ⟨g, off + 2, none⟩ = false := by
  have ag := own_ne_blk h.own h.blk (fun e => ht e.symm)
  have hb := ((h.blk.alloc o).drew).grown hg (Ne.symm ag)
  exact ⟨(hb.cell off).trans h.z, (hb.cell (off + 1)).trans h.p, (hb.cell (off + 2)).trans h.r, hb.frozen _, hb.frozen _⟩

theorem img_s {w : World} {g off : Nat} {t : TypeId} {cs : Array Value} {x y : Value} (h : Blk w g t cs) (hx : cs[off]? = some x) (hy : cs[off + 2]? = some y) :
    w.cell? ⟨g, off, none⟩ = some x ∧ w.cell? ⟨g, off + 2, none⟩ = some y ∧ w.frozen? ⟨g, off + 1, none⟩ = false := ⟨(h.cell _).trans hx, (h.cell _).trans hy, h.frozen _⟩

/-- Behind the first page that is added: the rest filled up with zero bytes. -/
def FirstIn (w : World) (g off : Nat) (t : TypeId) (cs : Array Value) (size : Nat) (A : Option Addr) (n c : Nat) (m : Img) (wx : World) : Prop :=
  ∃ cs1 gg cap, ImgIn wx g off t cs1 size (some ⟨gg, 0, none⟩) (n + 1) cap ⟨m.pages ++ [m.rest ++ (zs size).extract m.rest.size size], m.rest⟩ ∧ Rest3 off cs cs1 ∧ Step g (.slice A n c) (.slice (some ⟨gg, 0, none⟩) (n + 1) cap) w wx
theorem first_in {w1 : World} {gg cap : Nat} {Z : ByteArray} {o : Obj} (h : ImgIn w g off t cs size A n c m) (ht : t ≠ 9) (hZ : Z = zs size)
    (hown : w1.ownsRow 0 9 1 (.slice (some ⟨gg, 0, none⟩) (n + 1) cap) (n + 1) (strs m.pages ++ [.string (m.rest ++ Z.extract m.rest.size Z.size)])) (hg : (w.alloc o).drew.grownBy w1 (Value.slice A n c).ownBlock)
    (hat : (Value.slice A n c).ownBlock = some gg ∨ gg = w.heap.size + 1) :
    FirstIn w g off t cs size A n c m (w1.setCell ⟨g, off + 1, none⟩ (.slice (some ⟨gg, 0, none⟩) (n + 1) cap)) := by
  subst hZ
  rw [zs_size] at hown
  obtain ⟨h1, h2⟩ := h.more ht hown (((Below.refl _ w).alloc (Nat.le_refl _) o).drew) hg (hat.imp id (by omega))
  exact ⟨_, gg, cap, h1, Rest3.set1 _ _ _, h2⟩

set_option maxRecDepth 100000 in
set_option maxHeartbeats 3200000 in
theorem extend_any (h : ImgIn w g off t cs size A n c m) (ht : t ≠ 9) (hm : m.good size) (hs : size ≤ 4096) (N : Nat) (hN : N ≤ 1048576) (hn : n ≤ 1048576) :
    Calls Try.prog 55 #[.pointer (some ⟨g, off, none⟩), .int .i64 N] w fun e w' => e = .returned (.tuple #[]) ∧ ∃ cs' A' n' c', ImgIn w' g off t cs' size A' n' c' (m.grow size N) ∧ Rest3 off cs cs' ∧ Step g (.slice A n c) (.slice A' n' c') w w' := by
  obtain ⟨i0, hi0, hz0, hz1, hz2⟩ := info_parts infoStr
  obtain ⟨k0, k1, k2⟩ := h.cells
  have f1 := h.blk.frozen (off + 1)
  have f2 := h.blk.frozen (off + 2)
  have hlt := h.blk.lt
  have hlen := h.len
  by_cases hle : N ≤ n
  · have HG := Lib.hid (show m.grow size N = m by unfold Img.grow; rw [if_pos (by omega)])
    clear hlen
    go_enter Try.func55, Try.ntmps55
    go_wp2_with fail
    refine bodyPost_ret (results_none rfl _ _ _) rfl ?_
    exact ⟨rfl, cs, A, n, c, by rw [HG.out]; exact h, Rest3.refl _ _, Step.refl _ _ _⟩
  · have hr := hm.2
    obtain ⟨Z, hZ⟩ : ∃ Z, Z = zs size := ⟨_, rfl⟩
    have hZs : Z.size = size := by rw [hZ, zs_size]
    rw [← hZ] at k0
    have z0 : (0 : Int) ≤ m.rest.size := by omega
    have z1 : (m.rest.size : Int) ≤ Z.size := by omega
    have hcat : ¬ (9223372036854775807 < m.rest.size + (Z.size - m.rest.size)) := by omega
    have ag := own_ne_blk h.own h.blk (fun e => ht e.symm)
    have HZ := Lib.hid hZ
    have HZs := Lib.hid hZs
    have HL := Lib.hid hlen
    have H0 := Lib.hid hi0
    have H1 := Lib.hid hz0
    have H2 := Lib.hid hz1
    have H3 := Lib.hid hz2
    clear hZ hZs hlen hi0 hz0 hz1 hz2
    go_enter Try.func55, Try.ntmps55
    go_wp2_with fail
    go_cut [] (fun wx => FirstIn w g off t cs size A n c m wx)
    case first =>
     go_region_law
       ((refine step_append_lies _ (by rfl) _ _ _ (by rfl) 0 9 i0 _ 1 16 Try.underlying62 H0.out H1.out H2.out H3.out rfl (by omega) (.slice A n c) n (strs m.pages) (by rfl) ((h.own.alloc _).drew)
          ⟨w.heap.size, 0, none⟩ 1 1 [.string (m.rest ++ Z.extract m.rest.size Z.size)] (by rfl) (by rfl) (World.news_of_block (cs := #[.string (m.rest ++ Z.extract m.rest.size Z.size)]) (t := 9) (fr := (0, 0)) (heap_alloc_new w _)) (by simp [Value.oneCell'])
          (by omega) (by unfold maxLen; omega) (by omega) (by simp) (w.heap.size + 1) (by simp) ?_; intro gg cap w1 hown1 hgrow hat hlt1; obtain ⟨q1, q2, q3, g1, g2⟩ := img_cells h ht hgrow))
     all_goals (go_wp2_with fail; go_meet)
     all_goals exact first_in h ht HZ.out hown1 hgrow hat
    case rest =>
      obtain ⟨cs1, gg, cap, h1, hr1, hs1⟩ := hcut
      have H := Lib.hid h
      clear h k0 k1 k2 f1 f2 hlt ag
      have k2 := h1.cells.2.2
      have f2 := h1.blk.frozen (off + 2)
      go_wp2_with fail
      have hN' : n + 1 ≤ N := by omega
      have h2 : ImgIn (wc.setCell ⟨g, off + 2, none⟩ (.string ⟨#[]⟩)) g off t (cs1.setIfInBounds (off + 2) (.string ⟨#[]⟩)) size (some ⟨gg, 0, none⟩) (n + 1) cap ⟨m.pages ++ [m.rest ++ (zs size).extract m.rest.size size], ⟨#[]⟩⟩ := by
        refine ⟨h1.blk.set_ _ _, (set_ne (by omega) _).trans h1.z, (set_ne (by omega) _).trans h1.p, set_at h1.r _, ?_⟩
        exact ownsRow_setCell_other h1.own (own_ne_blk h1.own h1.blk (fun e => ht e.symm)) _
      have hr2 := hr1.trans (Rest3.set2 off cs1 (.string ⟨#[]⟩))
      have hs2 := hs1.set (off + 2) (.string ⟨#[]⟩)
      clear hr1 hs1 k2 f2 h1 hle
      go_loopg [] (N - (n + 1)) (fun gk wr => ∃ cs2 A2 n2 c2, gk = N - n2 ∧ n + 1 ≤ n2 ∧ n2 ≤ N ∧ Hid (ImgIn wr g off t cs2 size A2 n2 c2 ⟨m.pages ++ (m.rest ++ (zs size).extract m.rest.size size) :: List.replicate (n2 - n - 1) (zs size), ⟨#[]⟩⟩) ∧ Rest3 off cs cs2 ∧ Step g (.slice A n c) (.slice A2 n2 c2) w wr)
      case atStart => exact ⟨_, _, n + 1, cap, rfl, by omega, by omega, by rw [show n + 1 - n - 1 = 0 by omega]; exact h2, hr2, hs2⟩
      case round =>
        clear h2 hr2 hs2
        obtain ⟨cs2, A2, n2, c2, hgk, hn1, hn2, HI, hr, hst⟩ := hrel
        have h := HI.out
        have HI := Lib.hid h
        obtain ⟨k0, k1, k2⟩ := h.cells
        have f1 := h.blk.frozen (off + 1)
        have hglt := h.blk.lt
        have HX := Lib.hid h
        clear h
        by_cases hlt : n2 < N
        · have hgk' := Lib.hid hgk
          clear hgk
          have ag := own_ne_blk HX.out.own HX.out.blk (fun e => ht e.symm)
          have hsz := HX.out.own
          have q1 : ((wr.alloc (.cells #[.string Z] 9)).drew).cell? ⟨g, off + 1, none⟩ = some (.slice A2 n2 c2) := ((HX.out.blk.alloc _).drew.cell _).trans HX.out.p
          rw [← HZ.out] at k0
          go_wp2_with fail
          go_region_law
            ((refine step_append_lies _ (by rfl) _ _ _ (by rfl) 0 9 i0 _ 1 16 Try.underlying62 H0.out H1.out H2.out H3.out rfl (by omega) (.slice A2 n2 c2) n2 _ (by rfl) ((HX.out.own.alloc _).drew)
                ⟨wr.heap.size, 0, none⟩ 1 1 [.string Z] (by rfl) (by rfl) (World.news_of_block (cs := #[.string Z]) (t := 9) (fr := (0, 0)) (heap_alloc_new wr _)) (by simp [Value.oneCell'])
                (by omega) (by unfold maxLen; omega) (by omega) (by simp) (wr.heap.size + 1) (by simp) ?_; intro gg2 cap2 w1 hown1 hgrow hat hlt1; obtain ⟨q1, q2, q3, g1, g2⟩ := img_cells HX.out ht hgrow))
          all_goals (go_wp2_with fail; go_roundg (N - (n2 + 1)))
          all_goals first
            | (case measure => have := hgk'.out; omega)
            | (case rel =>
                obtain ⟨h5, h6⟩ := HX.out.more ht hown1 (((Below.refl _ wr).alloc (Nat.le_refl _) _).drew) hgrow (hat.imp id (by omega))
                refine ⟨cs2.setIfInBounds (off + 1) (.slice (some ⟨gg2, 0, none⟩) (n2 + 1) cap2), some ⟨gg2, 0, none⟩, n2 + 1, cap2, rfl, by omega, by omega, ?_, hr.trans (Rest3.set1 _ _ _), hst.trans h6⟩
                refine Lib.hid ?_
                have e : m.pages ++ (m.rest ++ (zs size).extract m.rest.size size) :: List.replicate (n2 + 1 - n - 1) (zs size) = (m.pages ++ (m.rest ++ (zs size).extract m.rest.size size) :: List.replicate (n2 - n - 1) (zs size)) ++ [Z] := by
                  rw [HZ.out, show n2 + 1 - n - 1 = (n2 - n - 1) + 1 by omega, List.replicate_succ']
                  simp
                rw [e]
                exact h5)
        · obtain rfl : n2 = N := by omega
          go_wp2_with fail
          go_end0
          refine ⟨rfl, cs2, A2, n2, c2, ?_, hr, hst⟩
          have e : m.grow size n2 = ⟨m.pages ++ (m.rest ++ (zs size).extract m.rest.size size) :: List.replicate (n2 - n - 1) (zs size), ⟨#[]⟩⟩ := by
            unfold Img.grow
            rw [if_neg (by have := HL.out; omega), HL.out]
          rw [e]
          exact HX.out
end
end Go.Proofs.Ytmkejkmgpigmhaa
