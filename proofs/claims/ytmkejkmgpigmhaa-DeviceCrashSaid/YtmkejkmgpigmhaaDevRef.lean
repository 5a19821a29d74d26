/-
  Contracts of the reference's device (pages of 128 bytes), each with its conditions in its own statement.
-/
import Derived.Test.YtmkejkmgpigmhaaDevUse
import Derived.Test.YtmkejkmgpigmhaaBytes
namespace Go.Proofs.Ytmkejkmgpigmhaa
open Go.RowKit
open Go.Lib hiding intOf
set_option linter.unusedVariables false
set_option linter.unusedSimpArgs false

theorem infoU8r : (Try.prog.info? 5).map (fun i => (i.zero, i.size, i.bytes)) = some (some (.int .u8 0), 1, 1) := by kernel_rfl
/-- 'string(make([]byte, n))', its second step. -/
theorem conv_zs {w : World} {g n : Nat} (h : MRow w g (List.replicate n 0)) :
    (convert 57 9 (.slice (some ⟨g, 0, none⟩) n n)).run Try.prog w = .ok (.string (zs n)) w := by
  have hr := h.reads
  rw [List.length_replicate] at hr
  exact run_string_reads w 57 9 5 n Try.underlying57 Try.underlying5 Try.underlying9 hr
theorem noughts_any (n : Nat) (w : World) (hn : n ≤ 4294967296) :
    Calls Try.prog 69 #[.int .i64 n] w fun e w' => e = .returned (.string (zs n)) ∧ Below w.heap.size w w' := by
  have hmk := run_make_bytes (P := Try.prog) 57 5 Try.underlying57 infoU8r n (by omega) w
  have cv := conv_zs (MRow.of_made w 5 n)
  have hb : Below w.heap.size w (w.alloc (.cells (madeCells #[.int .u8 0] n) 5)) := (Below.refl _ _).alloc (Nat.le_refl _) _
  have HB := Lib.hid hb
  have h0 : (max (0 : Int) n) = n := by omega
  clear hb
  go_enter Try.func69, Try.ntmps69
  go_wp2_with fail
  go_ret
  exact ⟨rfl, HB.out⟩
/-- Pages behind an operation, as a text. -/
def onB (o : POp) (I : ByteArray) : ByteArray := ⟨(o.on 128 I.data.toList).toArray⟩
theorem onB_list (o : POp) (I : ByteArray) : (onB o I).data.toList = o.on 128 I.data.toList := by simp [onB]
def opCells : POp → List Value
  | .wr n b => [.bool false, .int .u32 n, .string b]
  | .tr n => [.bool true, .int .u32 n, .string ⟨#[]⟩]

theorem wr_same {I b : ByteArray} {n : Nat} (hb : b.size = 128) (h : n * 128 + 128 ≤ I.size) : I.extract 0 (n * 128) ++ b ++ I.extract (n * 128 + 128) I.size = onB (.wr n b) I := by
  apply bytes_ext
  rw [onB_list]
  show _ = bWrite 128 n b.data.toList I.data.toList
  unfold bWrite
  have hl := size_list I
  rw [ByteArray.data_append, ByteArray.data_append, Array.toList_append, Array.toList_append, ext_list, ext_list, show n * 128 + 128 - I.data.toList.length = 0 by omega]
  simp
  rw [List.take_of_length_le (by rw [List.length_drop, hl]; omega)]
theorem wr_more {I b : ByteArray} {n : Nat} (hb : b.size = 128) (h : I.size < n * 128 + 128) : (I ++ zs (n * 128 + 128 - I.size)).extract 0 (n * 128) ++ b ++ (I ++ zs (n * 128 + 128 - I.size)).extract (n * 128 + 128) (n * 128 + 128) = onB (.wr n b) I := by
  apply bytes_ext
  rw [onB_list]
  show _ = bWrite 128 n b.data.toList I.data.toList
  unfold bWrite
  have hl := size_list I
  rw [ByteArray.data_append, ByteArray.data_append, Array.toList_append, Array.toList_append, ext_list, ext_list, ByteArray.data_append, Array.toList_append, zs_list, hl, List.drop_of_length_le (l := I.data.toList) (by omega)]
  simp
theorem tr_cut {I : ByteArray} {n : Nat} : I.extract 0 (min (n * 128) I.size) = onB (.tr n) I := by
  apply bytes_ext
  rw [onB_list]
  show _ = bCut 128 n I.data.toList
  unfold bCut
  have hl := size_list I
  rw [ext_list]
  simp

set_option maxHeartbeats 1600000 in
theorem rdoes_tr (I : ByteArray) (n : Nat) (w : World) (hn : n ≤ 1048576) (hI : I.size ≤ 4294967296) :
    Calls Try.prog 63 #[.int .i64 128, .string I, (.agg #[.bool true, .int .u32 n, .string ⟨#[]⟩])] w fun e w' => e = .returned (.string (onB (.tr n) I)) ∧ Below w.heap.size w w' := by
  have hb : Below w.heap.size w (w.alloc (.cells #[.bool true, .int .u32 n, .string ⟨#[]⟩] 89)) := (Below.refl _ _).alloc (Nat.le_refl _) _
  have HB := Lib.hid hb
  have HT := Lib.hid (tr_cut (I := I) (n := n))
  have hbk := Blk.new w 89 #[.bool true, .int .u32 n, .string ⟨#[]⟩]
  have k0 := hbk.cell 0
  have k1 := hbk.cell 1
  clear hb
  go_enter Try.func63, Try.ntmps63
  go_wp2_with fail
  go_ret
  refine ⟨?_, HB.out⟩
  rw [← HT.out, show min (n * 128) I.size = (min ((n : Int) * 128) (I.size : Int)).toNat by omega]
  rfl
set_option maxRecDepth 100000 in
set_option maxHeartbeats 1600000 in
theorem rdoes_wr (I b : ByteArray) (n : Nat) (w : World) (hn : n ≤ 1048576) (hI : I.size ≤ 4294967296) (hs : b.size = 128) :
    Calls Try.prog 63 #[.int .i64 128, .string I, (.agg #[.bool false, .int .u32 n, .string b])] w fun e w' => e = .returned (.string (onB (.wr n b) I)) ∧ Below w.heap.size w w' := by
  have hb : Below w.heap.size w (w.alloc (.cells #[.bool false, .int .u32 n, .string b] 89)) := (Below.refl _ _).alloc (Nat.le_refl _) _
  have HB := Lib.hid hb
  have hbk := Blk.new w 89 #[.bool false, .int .u32 n, .string b]
  have k0 := hbk.cell 0
  have k1 := hbk.cell 1
  have k2 := hbk.cell 2
  by_cases hle : n * 128 + 128 ≤ I.size
  · have HT := Lib.hid (wr_same hs hle)
    have HS := Lib.hid hs
    have x1 : (I.extract 0 (n * 128)).size = n * 128 := by rw [ByteArray.size_extract]; omega
    have x2 : (I.extract (n * 128 + 128) I.size).size ≤ 4294967296 := by rw [ByteArray.size_extract]; omega
    have hc1 : ¬ (9223372036854775807 < (I.extract 0 (n * 128)).size + b.size) := by omega
    have hc2 : ¬ (9223372036854775807 < (I.extract 0 (n * 128)).size + b.size + (I.extract (n * 128 + 128) I.size).size) := by omega
    clear hb x1 x2
    go_enter Try.func63, Try.ntmps63
    go_wp2_with fail
    go_region
    go_wp2_with fail
    go_ret
    exact ⟨by rw [← HT.out]; rfl, HB.out.drew⟩
  · have HT := Lib.hid (wr_more hs (Nat.lt_of_not_le hle))
    have HS := Lib.hid hs
    obtain ⟨d, hd⟩ : ∃ d, d = n * 128 + 128 - I.size := ⟨_, rfl⟩
    have ed : (n : Int) * 128 + 128 - (I.size : Int) = (d : Int) := by omega
    have hd' := noughts_any d (w.alloc (.cells #[.bool false, .int .u32 n, .string b] 89)) (by omega)
    rw [← hd] at HT
    have HD := Lib.hid hd
    clear hb hd
    go_enter Try.func63, Try.ntmps63
    go_wp2_with fail
    refine hd'.mono ?_
    rintro e w1 ⟨rfl, hb1⟩
    have hbk1 := hbk.below hb1 hbk.lt
    have j0 := hbk1.cell 0
    have j1 := hbk1.cell 1
    have j2 := hbk1.cell 2
    have hz := zs_size d
    have hJ : (I ++ zs d).size = n * 128 + 128 := by rw [ByteArray.size_append, zs_size, HD.out]; omega
    have x1 : ((I ++ zs d).extract 0 (n * 128)).size = n * 128 := by rw [ByteArray.size_extract]; omega
    have x2 : ((I ++ zs d).extract (n * 128 + 128) (n * 128 + 128)).size ≤ 4294967296 := by rw [ByteArray.size_extract]; omega
    have hc1 : ¬ (9223372036854775807 < ((I ++ zs d).extract 0 (n * 128)).size + b.size) := by omega
    have hc2 : ¬ (9223372036854775807 < ((I ++ zs d).extract 0 (n * 128)).size + b.size + ((I ++ zs d).extract (n * 128 + 128) (n * 128 + 128)).size) := by omega
    clear x1 x2
    clear k0 k1 k2
    go_wp2_with fail
    go_region
    go_wp2_with fail
    go_ret
    refine ⟨?_, (HB.out.trans (hb1.mono (by simp))).drew⟩
    have e := HT.out
    rw [show (I ++ zs d).extract (n * 128 + 128) (n * 128 + 128) = ByteArray.empty by simp, ByteArray.append_empty] at e
    rw [← e]
    rfl

def refCells (S : DevS) (D I : ByteArray) (A : Option Addr) (n c : Nat) : Array Value :=
  #[.int .i64 128, .int .i64 S.cap, .string D, .slice A n c, .string I, .int .i64 (max (-1) S.fuse), .int .i64 S.ops]
/-- The reference's device behind the pointer to block g; all that it uses lies in F. -/
structure RefAt (w : World) (F : Nat → Prop) (g : Nat) (S : DevS) (D I : ByteArray) (A : Option Addr) (n c : Nat) : Prop where
  blk : Blk w g 50 (refCells S D I A n c)
  own : w.ownsRow 0 89 3 (.slice A n c) n (S.pend.flatMap opCells)
  sz : S.size = 128
  capHi : S.cap ≤ 1048576
  dur : D.data.toList = S.dur
  img : I.data.toList = S.img
  np : n = S.pend.length
  each : ∀ o ∈ S.pend, o.ok 128 S.cap
  dl : S.dur.length < S.cap * 128 + 128
  il : S.img.length < S.cap * 128 + 128
  few : S.pend.length ≤ S.ops
  Fg : F g
  F1 : ∀ k, (Value.slice A n c).ownBlock = some k → F k
  Flt : ∀ k, F k → k < w.heap.size
def Ref (w : World) (F : Nat → Prop) (g : Nat) (S : DevS) : Prop := ∃ D I A n c, RefAt w F g S D I A n c
section
variable {w w' : World} {F G : Nat → Prop} {g : Nat} {S : DevS} {D I : ByteArray} {A : Option Addr} {n c : Nat}
theorem RefAt.kept (h : RefAt w F g S D I A n c) (hk : Kept G w w') (hn : ∀ k, F k → ¬ G k) : RefAt w' F g S D I A n c :=
  { h with
    blk := hk.blk h.blk (hn _ h.Fg)
    own := hk.own h.own fun k e => hn _ (h.F1 k e)
    Flt := fun k hk' => Nat.lt_of_lt_of_le (h.Flt k hk') hk.size }
theorem Ref.kept (h : Ref w F g S) (hk : Kept G w w') (hn : ∀ k, F k → ¬ G k) : Ref w' F g S := by
  obtain ⟨D, I, A, n, c, h⟩ := h
  exact ⟨D, I, A, n, c, h.kept hk hn⟩
theorem Ref.lt (h : Ref w F g S) : ∀ k, F k → k < w.heap.size := by
  obtain ⟨D, I, A, n, c, h⟩ := h
  exact h.Flt
theorem RefAt.new (h : RefAt w F g S D I A n c) (hb : Below w.heap.size w w') : RefAt w' F g S D I A n c :=
  h.kept (G := fun k => w.heap.size ≤ k) (Kept.of_below hb fun k h1 _ => h1) fun k hk => by have := h.Flt k hk; omega
theorem Ref.new (h : Ref w F g S) (hb : Below w.heap.size w w') : Ref w' F g S := by
  obtain ⟨D, I, A, n, c, h⟩ := h
  exact ⟨D, I, A, n, c, h.new hb⟩
theorem RefAt.wide (h : RefAt w F g S D I A n c) (hG : ∀ k, F k → G k) (hlt : ∀ k, G k → k < w.heap.size) : RefAt w G g S D I A n c :=
  { h with Fg := hG _ h.Fg, F1 := fun k e => hG _ (h.F1 k e), Flt := hlt }
theorem Ref.wide (h : Ref w F g S) (hG : ∀ k, F k → G k) (hlt : ∀ k, G k → k < w.heap.size) : Ref w G g S := by
  obtain ⟨D, I, A, n, c, h⟩ := h
  exact ⟨D, I, A, n, c, h.wide hG hlt⟩
theorem RefAt.ne (h : RefAt w F g S D I A n c) : (Value.slice A n c).ownBlock ≠ some g := own_ne_blk h.own h.blk (by decide)
theorem ref_cells (h : Blk w g 50 (refCells S D I A n c)) :
    w.cell? ⟨g, 0, none⟩ = some (.int .i64 128) ∧ w.cell? ⟨g, 1, none⟩ = some (.int .i64 S.cap) ∧ w.cell? ⟨g, 2, none⟩ = some (.string D) ∧ w.cell? ⟨g, 3, none⟩ = some (.slice A n c) ∧
    w.cell? ⟨g, 4, none⟩ = some (.string I) ∧ w.cell? ⟨g, 5, none⟩ = some (.int .i64 (max (-1) S.fuse)) ∧ w.cell? ⟨g, 6, none⟩ = some (.int .i64 S.ops) :=
  ⟨h.cell 0, h.cell 1, h.cell 2, h.cell 3, h.cell 4, h.cell 5, h.cell 6⟩
/-- A store of a number into the reference's own block. -/
theorem RefAt.store (h : RefAt w F g S D I A n c) {S' : DevS} (i : Nat) (u : Value)
    (hc : (refCells S D I A n c).setIfInBounds i u = refCells S' D I A n c)
    (e1 : S'.size = S.size) (e2 : S'.cap = S.cap) (e3 : S'.img = S.img) (e4 : S'.dur = S.dur) (e5 : S'.pend = S.pend) (e6 : S.ops ≤ S'.ops) :
    RefAt (w.setCell ⟨g, i, none⟩ u) F g S' D I A n c :=
  { blk := by rw [← hc]; exact h.blk.set_ i u
    own := by rw [e5]; exact ownsRow_setCell_other h.own h.ne _
    sz := by rw [e1]; exact h.sz
    capHi := by rw [e2]; exact h.capHi
    dur := by rw [e4]; exact h.dur
    img := by rw [e3]; exact h.img
    np := by rw [e5]; exact h.np
    each := by rw [e5, e2]; exact h.each
    dl := by rw [e4, e2]; exact h.dl
    il := by rw [e3, e2]; exact h.il
    few := by rw [e5]; exact Nat.le_trans h.few e6
    Fg := h.Fg, F1 := h.F1
    Flt := fun k hk' => by have := h.Flt k hk'; simpa [World.setCell] using this }
theorem rspend_no (h : RefAt w F g S D I A n c) (hf : S.fuse = 0) :
    Calls Try.prog 62 #[.pointer (some ⟨g, 0, none⟩)] w fun e w' => e = .returned (.int .i64 8) ∧ w = w' := by
  obtain ⟨_, _, _, _, _, k5, _⟩ := ref_cells h.blk
  rw [hf] at k5
  have HF := Lib.hid hf
  clear hf
  go_enter Try.func62, Try.ntmps62
  go_wp2
  go_ret
  exact ⟨rfl, rfl⟩
theorem rspend_yes (h : RefAt w F g S D I A n c) (hf : S.fuse ≠ 0) (hhi : S.fuse ≤ 9223372036854775807) (ho : S.ops ≤ 4294967296) :
    Calls Try.prog 62 #[.pointer (some ⟨g, 0, none⟩)] w fun e w' => e = .returned (.int .i64 0) ∧ RefAt w' F g { S with fuse := burn S.fuse, ops := S.ops + 1 } D I A n c ∧ Kept F w w' := by
  obtain ⟨_, _, _, _, _, k5, k6⟩ := ref_cells h.blk
  have f5 := h.blk.frozen 5
  have f6 := h.blk.frozen 6
  obtain ⟨z, hz⟩ : ∃ z, z = S.fuse := ⟨_, rfl⟩
  rw [← hz] at k5 hf hhi
  have HZ := Lib.hid hz
  clear hz
  by_cases hp : 0 < z
  · have e1 : max (-1) z = z := by omega
    rw [e1] at k5
    have hb' : max (-1) (burn z) = z - 1 := by unfold burn; rw [if_pos hp]; omega
    have HB := Lib.hid hb'
    clear hb' e1
    go_enter Try.func62, Try.ntmps62
    go_wp2
    go_ret
    refine ⟨rfl, ?_, ((Kept.refl _ _).setCell (.inl h.Fg) _).setCell (.inl h.Fg) _⟩
    have h1 := h.store (S' := { S with fuse := burn S.fuse }) 5 (.int .i64 (z - 1)) (by rw [← HB.out, HZ.out]; rfl) rfl rfl rfl rfl rfl (Nat.le_refl _)
    exact h1.store 6 _ (by go_num) rfl rfl rfl rfl rfl (Nat.le_succ _)
  · have e1 : max (-1) z = -1 := by omega
    rw [e1] at k5
    have hb' : max (-1) (burn z) = -1 := by unfold burn; rw [if_neg hp]; omega
    have HB := Lib.hid hb'
    have H1 := Lib.hid e1
    clear hb' e1
    go_enter Try.func62, Try.ntmps62
    go_wp2
    go_ret
    refine ⟨rfl, ?_, (Kept.refl _ _).setCell (.inl h.Fg) _⟩
    refine h.store 6 _ ?_ rfl rfl rfl rfl rfl (Nat.le_succ _)
    have e : max (-1) S.fuse = max (-1) (burn S.fuse) := by rw [← HZ.out, HB.out, H1.out]
    show (refCells S D I A n c).setIfInBounds 6 _ = #[.int .i64 128, .int .i64 S.cap, .string D, .slice A n c, .string I, .int .i64 (max (-1) (burn S.fuse)), .int .i64 ((S.ops + 1 : Nat) : Int)]
    rw [← e]
    go_num
/-- What the append to the pending operations leaves of the reference. -/
theorem RefAt.push (h : RefAt w F g S D I A n c) {o : POp} (ho : o.ok 128 S.cap) (hfew : S.pend.length + 1 ≤ S.ops) {w3 : World} {gg cap : Nat} {ob : Obj} (hg : (w.alloc ob).drew.grownBy w3 (Value.slice A n c).ownBlock)
    (hown : w3.ownsRow 0 89 3 (.slice (some ⟨gg, 0, none⟩) (n + 1) cap) (n + 1) (S.pend.flatMap opCells ++ opCells o)) (hat : (Value.slice A n c).ownBlock = some gg ∨ gg = w.heap.size + 1) :
    RefAt (w3.setCell ⟨g, 3, none⟩ (.slice (some ⟨gg, 0, none⟩) (n + 1) cap)) (Grow F w (w3.setCell ⟨g, 3, none⟩ (.slice (some ⟨gg, 0, none⟩) (n + 1) cap))) g { S with pend := S.pend ++ [o] } D I (some ⟨gg, 0, none⟩) (n + 1) cap ∧
    Kept F w (w3.setCell ⟨g, 3, none⟩ (.slice (some ⟨gg, 0, none⟩) (n + 1) cap)) := by
  have hk : Kept (fun i => i = g ∨ (Value.slice A n c).ownBlock = some i) w (w3.setCell ⟨g, 3, none⟩ (.slice (some ⟨gg, 0, none⟩) (n + 1) cap)) :=
    ((((Kept.refl _ w).alloc ob).drew).grown hg fun i hi => .inl (.inr hi)).setCell (.inl (.inl rfl)) _
  have hkF : Kept F w (w3.setCell ⟨g, 3, none⟩ (.slice (some ⟨gg, 0, none⟩) (n + 1) cap)) := hk.mono (by rintro k (rfl | hk'); exact h.Fg; exact h.F1 k hk')
  have hb3 : Blk w3 g 50 (refCells S D I A n c) := ((h.blk.alloc ob).drew).grown hg (Ne.symm h.ne)
  have hlt3 : gg < (w3.setCell ⟨g, 3, none⟩ (.slice (some ⟨gg, 0, none⟩) (n + 1) cap)).heap.size := by have := (hown.lt gg rfl).2; simpa [World.setCell] using this
  refine ⟨{ h with
    blk := hb3.set_ 3 _
    own := by
      show World.ownsRow _ 0 _ 3 _ (n + 1) ((S.pend ++ [o]).flatMap opCells)
      rw [List.flatMap_append]
      simp only [List.flatMap_cons, List.flatMap_nil, List.append_nil]
      exact ownsRow_setCell_other hown (own_ne_blk hown hb3 (by decide)) _
    np := by show n + 1 = (S.pend ++ [o]).length; rw [List.length_append, ← h.np]; rfl
    each := fun o' ho' => by
      rcases List.mem_append.1 ho' with h1 | h1
      · exact h.each o' h1
      · rw [List.mem_singleton.1 h1]; exact ho
    few := by show (S.pend ++ [o]).length ≤ S.ops; rw [List.length_append]; exact hfew
    Fg := .inl h.Fg
    F1 := fun k hk' => ?_
    Flt := grow_lt h.Flt hk.size }, hkF⟩
  have e : gg = k := by simpa [Value.ownBlock] using hk'
  subst e
  rcases hat with h1 | h1
  · exact .inl (h.F1 gg h1)
  · exact .inr ⟨by omega, hlt3⟩
theorem ref_lit {w1 : World} {ob : Obj} (h : RefAt w F g S D I A n c) (hg : (w.alloc ob).drew.grownBy w1 (Value.slice A n c).ownBlock) :
    w1.cell? ⟨g, 3, none⟩ = some (.slice A n c) ∧ w1.frozen? ⟨g, 3, none⟩ = false := by
  have hb := ((h.blk.alloc ob).drew).grown hg (Ne.symm h.ne)
  exact ⟨hb.cell 3, hb.frozen 3⟩
theorem infoOp : (Try.prog.info? 89).map (fun i => (i.zero, i.size, i.bytes)) = some (some (.agg #[.bool false, .int .u32 0, .string ⟨#[]⟩]), 3, 24) := by kernel_rfl
/-- The store of an operation's image. -/
theorem RefAt.image (h : RefAt w F g S D I A n c) {o : POp} (ho : o.ok 128 S.cap) :
    RefAt (w.setCell ⟨g, 4, none⟩ (.string (onB o I))) F g { S with img := o.on 128 S.img } D (onB o I) A n c :=
  { h with
    blk := h.blk.set_ 4 _
    own := ownsRow_setCell_other h.own h.ne _
    img := by rw [onB_list, h.img]
    il := by
      have h1 := h.il
      show (o.on 128 S.img).length < S.cap * 128 + 128
      cases o with
      | wr k b =>
        have h2 : k < S.cap := ho.1
        show (bWrite 128 k b.data.toList S.img).length < _
        rw [bWrite_len 128 k _ _ (by rw [size_list]; exact ho.2)]
        omega
      | tr k =>
        show (S.img.take (k * 128)).length < _
        rw [List.length_take]
        omega
    Flt := fun k hk' => by have := h.Flt k hk'; simpa [World.setCell] using this }
/-- Behind the append. -/
def PushIn (w : World) (F : Nat → Prop) (g : Nat) (S : DevS) (o : POp) (D I : ByteArray) (wx : World) : Prop :=
  ∃ A n c, RefAt wx (Grow F w wx) g { S with pend := S.pend ++ [o] } D I A n c ∧ Kept F w wx

set_option maxRecDepth 100000 in
set_option maxHeartbeats 3200000 in
theorem rop_wr (h : RefAt w F g S D I A n c) (k : Nat) (b : ByteArray) (hs : b.size = 128) (hk : k < S.cap) (hf : S.fuse ≠ 0) (hhi : S.fuse ≤ 9223372036854775807) (hops : S.ops ≤ 4294967296) :
    Calls Try.prog 61 #[.pointer (some ⟨g, 0, none⟩), .agg #[.bool false, .int .u32 k, .string b]] w fun e w' => e = .returned (.int .i64 0) ∧ Ref w' (Grow F w w') g { S with img := POp.on 128 (.wr k b) S.img, pend := S.pend ++ [(.wr k b)], fuse := burn S.fuse, ops := S.ops + 1 } ∧ Kept F w w' := by
  obtain ⟨i0, hi0, hz0, hz1, hz2⟩ := info_parts infoOp
  have ho : POp.ok 128 S.cap (.wr k b) := ⟨hk, hs⟩
  have hb : Below w.heap.size w (w.alloc (.cells #[.bool false, .int .u32 k, .string b] 89)) := (Below.refl _ _).alloc (Nat.le_refl _) _
  have h0 := h.new hb
  have hbk := Blk.new w 89 #[.bool false, .int .u32 k, .string b]
  have hs1 := rspend_yes h0 hf hhi hops
  have hIL : I.size ≤ 4294967296 := by have h1 := h.il; have h2 := h.capHi; have h3 := size_list I; rw [h.img] at h3; omega
  have HIL := Lib.hid hIL
  have HS := Lib.hid hs
  have HO := Lib.hid ho
  have HB := Lib.hid hb
  have H0 := Lib.hid hi0
  have H1 := Lib.hid hz0
  have H2 := Lib.hid hz1
  have H3 := Lib.hid hz2
  have HF := Lib.hid hf
  have hn3 : n ≤ 4294967296 := by have := h.np; have := h.few; omega
  clear hi0 hz0 hz1 hz2 hb ho hf hIL
  go_enter Try.func61, Try.ntmps61
  go_wp2_with fail
  refine hs1.mono ?_
  rintro e w1 ⟨rfl, h1, hk1⟩
  have hbk1 : Blk w1 w.heap.size 89 #[.bool false, .int .u32 k, .string b] := hk1.blk hbk (fun hf => by have := h.Flt _ hf; omega)
  have j0 := hbk1.cell 0
  have j1 := hbk1.cell 1
  have j2 := hbk1.cell 2
  obtain ⟨_, _, _, k3, _, _, _⟩ := ref_cells h1.blk
  go_wp2_with fail
  have hgl := h1.blk.lt
  go_cut [] (fun wx => PushIn w1 F g { S with fuse := burn S.fuse, ops := S.ops + 1 } (.wr k b) D I wx)
  case first =>
   go_region_law
     ((refine step_append_lies _ (by rfl) _ _ _ (by rfl) 0 89 i0 _ 3 24 Try.underlying48 H0.out H1.out H2.out H3.out rfl (by omega) (.slice A n c) n (S.pend.flatMap opCells) (by rfl) ((h1.own.alloc _).drew)
        ⟨w1.heap.size, 0, none⟩ 1 1 (opCells (.wr k b)) (by rfl) (by rfl) (World.news_of_block (cs := #[.bool false, .int .u32 k, .string b]) (t := 89) (fr := (0, 0)) (heap_alloc_new w1 _)) (by simp [opCells, Value.oneCell'])
        (by omega) (by unfold maxLen; omega) (by omega) (by simp) (w1.heap.size + 1) (by simp) ?_; intro gg cap w2 hown1 hgrow hat hlt1; obtain ⟨q1, q2⟩ := ref_lit h1 hgrow))
   all_goals (go_wp2_with fail; go_meet)
   all_goals (obtain ⟨p1, p2⟩ := h1.push HO.out (Nat.succ_le_succ h.few) hgrow hown1 hat; exact ⟨_, _, _, p1, p2⟩)
  case rest =>
    obtain ⟨A', n', c', h2, hk2⟩ := hcut
    have hbk2 : Blk wc w.heap.size 89 _ := hk2.blk hbk1 (fun hf => by have := h.Flt _ hf; omega)
    clear j0 j1 j2 k3
    have j0 := hbk2.cell 0
    have j1 := hbk2.cell 1
    have j2 := hbk2.cell 2
    obtain ⟨r0, _, _, _, r4, _, _⟩ := ref_cells h2.blk
    have h2d : RefAt wc.drew (Grow F w1 wc) g _ D I A' n' c' := h2.new ((Below.refl _ _).drew)
    have hcp := h.capHi
    go_wp2_with fail
    go_region_with (go_at_call 63
                    refine (rdoes_wr I b k _ (by omega) HIL.out HS.out).mono ?_
                    rintro e w3 ⟨rfl, hb3⟩
                    have h3 := h2d.new hb3
                    have q4 := h3.blk.cell 4
                    have g4 := h3.blk.frozen 4)
    all_goals (go_wp2_with fail; go_ret)
    all_goals
      have h4 := h3.image HO.out
      have hz1 := hk1.size
      have hz2 := hk2.size
      have hz3 := hb3.size
      have hz0 : (w.alloc (.cells #[.bool false, .int .u32 k, .string b] 89)).heap.size = w.heap.size + 1 := by simp
      have hkk := (((((Kept.of_new (F := F) HB.out).trans hk1).trans hk2).drew).trans (Kept.of_new hb3)).setCell (p := ⟨g, 4, none⟩) (.inl h.Fg) (.string (onB (.wr k b) I))
      refine ⟨rfl, ⟨_, _, _, _, _, h4.wide ?_ (grow_lt h.Flt hkk.size)⟩, hkk⟩
      rintro i (h5 | ⟨h5, h6⟩)
      · exact .inl h5
      · refine .inr ⟨by omega, ?_⟩
        have : wc.heap.size ≤ w3.heap.size := hz3
        simp [World.setCell]
        omega

set_option maxRecDepth 100000 in
set_option maxHeartbeats 3200000 in
theorem rop_tr (h : RefAt w F g S D I A n c) (k : Nat) (hk : k ≤ S.cap) (hf : S.fuse ≠ 0) (hhi : S.fuse ≤ 9223372036854775807) (hops : S.ops ≤ 4294967296) :
    Calls Try.prog 61 #[.pointer (some ⟨g, 0, none⟩), .agg #[.bool true, .int .u32 k, .string ⟨#[]⟩]] w fun e w' => e = .returned (.int .i64 0) ∧ Ref w' (Grow F w w') g { S with img := POp.on 128 (.tr k) S.img, pend := S.pend ++ [(.tr k)], fuse := burn S.fuse, ops := S.ops + 1 } ∧ Kept F w w' := by
  obtain ⟨i0, hi0, hz0, hz1, hz2⟩ := info_parts infoOp
  have ho : POp.ok 128 S.cap (.tr k) := hk
  have hb : Below w.heap.size w (w.alloc (.cells #[.bool true, .int .u32 k, .string ⟨#[]⟩] 89)) := (Below.refl _ _).alloc (Nat.le_refl _) _
  have h0 := h.new hb
  have hbk := Blk.new w 89 #[.bool true, .int .u32 k, .string ⟨#[]⟩]
  have hs1 := rspend_yes h0 hf hhi hops
  have hIL : I.size ≤ 4294967296 := by have h1 := h.il; have h2 := h.capHi; have h3 := size_list I; rw [h.img] at h3; omega
  have HIL := Lib.hid hIL
  have HO := Lib.hid ho
  have HB := Lib.hid hb
  have H0 := Lib.hid hi0
  have H1 := Lib.hid hz0
  have H2 := Lib.hid hz1
  have H3 := Lib.hid hz2
  have HF := Lib.hid hf
  have hn3 : n ≤ 4294967296 := by have := h.np; have := h.few; omega
  clear hi0 hz0 hz1 hz2 hb ho hf hIL
  go_enter Try.func61, Try.ntmps61
  go_wp2_with fail
  refine hs1.mono ?_
  rintro e w1 ⟨rfl, h1, hk1⟩
  have hbk1 : Blk w1 w.heap.size 89 #[.bool true, .int .u32 k, .string ⟨#[]⟩] := hk1.blk hbk (fun hf => by have := h.Flt _ hf; omega)
  have j0 := hbk1.cell 0
  have j1 := hbk1.cell 1
  have j2 := hbk1.cell 2
  obtain ⟨_, _, _, k3, _, _, _⟩ := ref_cells h1.blk
  go_wp2_with fail
  have hgl := h1.blk.lt
  go_cut [] (fun wx => PushIn w1 F g { S with fuse := burn S.fuse, ops := S.ops + 1 } (.tr k) D I wx)
  case first =>
   go_region_law
     ((refine step_append_lies _ (by rfl) _ _ _ (by rfl) 0 89 i0 _ 3 24 Try.underlying48 H0.out H1.out H2.out H3.out rfl (by omega) (.slice A n c) n (S.pend.flatMap opCells) (by rfl) ((h1.own.alloc _).drew)
        ⟨w1.heap.size, 0, none⟩ 1 1 (opCells (.tr k)) (by rfl) (by rfl) (World.news_of_block (cs := #[.bool true, .int .u32 k, .string ⟨#[]⟩]) (t := 89) (fr := (0, 0)) (heap_alloc_new w1 _)) (by simp [opCells, Value.oneCell'])
        (by omega) (by unfold maxLen; omega) (by omega) (by simp) (w1.heap.size + 1) (by simp) ?_; intro gg cap w2 hown1 hgrow hat hlt1; obtain ⟨q1, q2⟩ := ref_lit h1 hgrow))
   all_goals (go_wp2_with fail; go_meet)
   all_goals (obtain ⟨p1, p2⟩ := h1.push HO.out (Nat.succ_le_succ h.few) hgrow hown1 hat; exact ⟨_, _, _, p1, p2⟩)
  case rest =>
    obtain ⟨A', n', c', h2, hk2⟩ := hcut
    have hbk2 : Blk wc w.heap.size 89 _ := hk2.blk hbk1 (fun hf => by have := h.Flt _ hf; omega)
    clear j0 j1 j2 k3
    have j0 := hbk2.cell 0
    have j1 := hbk2.cell 1
    have j2 := hbk2.cell 2
    obtain ⟨r0, _, _, _, r4, _, _⟩ := ref_cells h2.blk
    have h2d : RefAt wc.drew (Grow F w1 wc) g _ D I A' n' c' := h2.new ((Below.refl _ _).drew)
    have hcp := h.capHi
    go_wp2_with fail
    go_region_with (go_at_call 63
                    refine (rdoes_tr I k _ (by omega) HIL.out).mono ?_
                    rintro e w3 ⟨rfl, hb3⟩
                    have h3 := h2d.new hb3
                    have q4 := h3.blk.cell 4
                    have g4 := h3.blk.frozen 4)
    all_goals (go_wp2_with fail; go_ret)
    all_goals
      have h4 := h3.image HO.out
      have hz1 := hk1.size
      have hz2 := hk2.size
      have hz3 := hb3.size
      have hz0 : (w.alloc (.cells #[.bool true, .int .u32 k, .string ⟨#[]⟩] 89)).heap.size = w.heap.size + 1 := by simp
      have hkk := (((((Kept.of_new (F := F) HB.out).trans hk1).trans hk2).drew).trans (Kept.of_new hb3)).setCell (p := ⟨g, 4, none⟩) (.inl h.Fg) (.string (onB (.tr k) I))
      refine ⟨rfl, ⟨_, _, _, _, _, h4.wide ?_ (grow_lt h.Flt hkk.size)⟩, hkk⟩
      rintro i (h5 | ⟨h5, h6⟩)
      · exact .inl h5
      · refine .inr ⟨by omega, ?_⟩
        have : wc.heap.size ≤ w3.heap.size := hz3
        simp [World.setCell]
        omega
end
end Go.Proofs.Ytmkejkmgpigmhaa
