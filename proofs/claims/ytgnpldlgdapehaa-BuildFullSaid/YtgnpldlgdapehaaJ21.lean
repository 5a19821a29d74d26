/-
  Contracts of slices.Chunk over items, its iterator, and of build.parts. (Written by wip/tools/gen_buq.py.)
-/
import Derived.Test.YtgnpldlgdapehaaJ20
import Derived.Test.YtgnpldlgdapehaaJ12
import Derived.Test.YtgnpldlgdapehaaJ13
import Derived.Sort.CutIn
import Derived.Maps.OwnIn
import Derived.Sort.LoopGhostIn
import Derived.BigGuardPartIn
import Derived.BigGuardIn
set_option linter.unusedVariables false
set_option linter.unusedSimpArgs false
namespace Go.Proofs.Ytgnpldlgdapehaa
open Go.RowKit Go.Shelf
attribute [local go_sem] Oper.semAt_some
attribute [local go_sem ↓] Go.wp_at_zero Go.wp_at_succ

theorem chunkI_any (A : Option Addr) (n c : Nat) (w : World) :
  Calls Try.prog 72 #[.slice A n c, .int .i64 1] w fun e w' => e = .returned (.func (.func 90) #[] #[.pointer (some ⟨w.heap.size, 0, none⟩), .pointer (some ⟨w.heap.size + 1, 0, none⟩)]) ∧ w' = (w.alloc (.cells #[.slice A n c] 23)).alloc (.cells #[.int .i64 1] 3) := by
 have hmf : ∀ (fn : Fn) (first cap : Array Value) (w : World), (Instr.makeFunc fn first cap).run Try.prog w = .ok (.func fn first cap) w := fun _ _ _ _ => rfl
 go_enter Try.func72, Try.ntmps72
 go_wp2_with fail
 go_ret
 exact ⟨rfl, rfl⟩
def encI (A : Option Addr) (i : Nat) : Array Value := #[.slice (A.map (·.add (i * 5))) 1 1]
set_option maxRecDepth 100000 in
set_option maxHeartbeats 6400000 in
theorem chunkI_in (n l b1 b2 : Nat) (A : Option Addr) (m c : Nat) (hm : m ≤ 1000000) (hmc : m ≤ c) (hA : 0 < m → ∃ ad, A = some ad) (J Jx : List Nat → (Nat → Prop) → World → Prop) (U0 : Nat → Prop) (sJ : StabU J) (sJx : StabU Jx) (lJ : LtU J) (lJx : LtU Jx)
  (hY : ∀ m' pre x U W1, J pre U W1 → pre ++ [x] <+: List.range m → YieldAt Fence.wide m' Try.prog l (encI A x) W1 (AfterU J Jx U W1 (pre ++ [x])))
  (W : World) (c1 : Boxed W b1 23 (.slice A m c)) (c2 : Boxed W b2 3 (.int .i64 1)) (n1 : ¬ U0 b1) (n2 : ¬ U0 b2) (h0 : J [] U0 W) :
  CallsIn Fence.wide n Try.prog 90 #[.func (.yield l) #[] #[], .pointer (some ⟨b1, 0, none⟩), .pointer (some ⟨b2, 0, none⟩)] W fun e W' => (∃ v, e = .returned v) ∧ ∃ U', (J (List.range m) U' W' ∨ ∃ pre, pre <+: List.range m ∧ Jx pre U' W') := by
 refine callsIn_of_wp Try.func90 rfl trivial ?_ rfl
 simp only [Try.ntmps90, List.size_toArray, List.length_cons, List.length_nil, Nat.reduceAdd, Nat.reduceSub, Array.replicate_succ, Array.replicate_zero, List.push_toArray, List.append_toArray, List.nil_append, List.cons_append]
 have HY := Lib.hid hY
 have C1 := Lib.hid c1
 have C2 := Lib.hid c2
 have SJ := Lib.hid sJ
 have HA := Lib.hid hA
 clear hY c1 c2 hA
 gi_wp2
 gi_loopw [4, 5] (fun p _ wr => ∃ (k : Nat) (U : Nat → Prop), k ≤ m ∧ p = .int .i64 k ∧ Hid (J (List.range k) U wr) ∧ Hid (¬ U b1 ∧ ¬ U b2) ∧ Hid (Boxed wr b1 23 (.slice A m c)) ∧ Hid (Boxed wr b2 3 (.int .i64 1))) (fun p _ _ => m - (RowKit.intOf p).toNat)
 case atStart => exact ⟨0, U0, Nat.zero_le _, rfl, Lib.hid (by simpa using h0), Lib.hid ⟨n1, n2⟩, C1, C2⟩
 case round =>
  obtain ⟨k, U, hk, rfl, HJ, HN, H1, H2⟩ := hrel
  clear C1 C2 h0 n1 n2
  have cS := H1.out.cell
  have cN := H2.out.cell
  by_cases hlt : k < m
  ·obtain ⟨ad, rfl⟩ := HA.out (by omega)
   obtain ⟨X, q, hlow⟩ := lowI (some ad) m c k (k : Int) rfl hk
   have hone := sl1I ad m c k (k : Int) ((k : Int) + 1) rfl (by omega) (by omega)
   have hmin : min (1 : Int) ((m - k : Nat) : Int) = 1 := by omega
   have e1 : (0 : Int) ≤ k := by omega
   have e2 : (k : Int) < m := by omega
   have e3 : (k : Int) ≤ m := by omega
   have HP := Lib.hid (show List.range k ++ [k] <+: List.range m from by
    rw [← List.range_succ]
    exact ⟨(List.range m).drop (k + 1), by rw [show List.range (k + 1) = (List.range m).take (k + 1) by rw [List.take_range, Nat.min_eq_left (by omega)]]; exact List.take_append_drop _ _⟩)
   have HJ2 := Lib.hid (SJ.out _ _ _ _ HJ.out (KeepsU.of_below (Below.refl _ wr).drew))
   obtain ⟨fn, tmps, assign, body, hy, hRn⟩ := HY.out (n - 1) (List.range k) k U wr.drew HJ2.out HP.out
   simp only [encI, Option.map_some] at hy hRn
   have HRn := Lib.hid hRn
   clear hRn HY
   gi_upto_region 3 with fail
   refine wpIn_wide.2 ?_
   go_region
   all_goals go_wp2_with fail
   clear hlow hmin
   gi_wp2
   refine ⟨fun h => by simp [Fence.wide] at h, ?_⟩
   refine HRn.out.mono ?_
   rintro e W3 (⟨rfl, U3, hU3, hk3, hJ3⟩ | ⟨rfl, U3, hU3, hk3, hJ3⟩)
   ·have g1 := (hk3.block b1 H1.out.lt HN.out.1)
    have g2 := (hk3.block b2 H2.out.lt HN.out.2)
    have H13 := Lib.hid (show Boxed W3 b1 23 (.slice (some ad) m c) from g1.trans H1.out)
    have H23 := Lib.hid (show Boxed W3 b2 3 (.int .i64 1) from g2.trans H2.out)
    have N3 := Lib.hid (show ¬ U3 b1 ∧ ¬ U3 b2 from ⟨fun h => by rcases hU3 b1 h with h | h; exact HN.out.1 h; exact absurd h (Nat.not_le.2 H1.out.lt), fun h => by rcases hU3 b2 h with h | h; exact HN.out.2 h; exact absurd h (Nat.not_le.2 H2.out.lt)⟩)
    have HJ3 := Lib.hid (show J (List.range (k + 1)) U3 W3 by rw [List.range_succ]; exact hJ3)
    have cN3 := H23.out.cell
    clear hk3 hJ3 hU3 hy g1 g2 cS cN
    gi_wp2
    go_roundw
    case rel =>
     first
      | exact ⟨k + 1, U3, by omega, by go_num, HJ3, N3, H13, H23⟩
      | ((repeat apply Exists.intro); exact ⟨⟨k + 1, U3, by omega, by go_num, HJ3, N3, H13, H23⟩, rfl⟩)
    case measure => simp [RowKit.intOf]; omega
   ·gi_wp2
    refine bodyPost_ret (results_none rfl _ _ _) rfl ?_
    exact ⟨⟨_, rfl⟩, U3, .inr ⟨_, HP.out, hJ3⟩⟩
  ·obtain rfl : k = m := by omega
   have e2 : ¬ (k : Int) < k := by omega
   clear hlt
   gi_wp2
   go_end0
   exact ⟨⟨_, rfl⟩, U, .inl HJ.out⟩
theorem chunkI_seq (b1 b2 : Nat) (A : Option Addr) (m c : Nat) (hm : m ≤ 1000000) (hmc : m ≤ c) (hA : 0 < m → ∃ ad, A = some ad) (w : World) (c1 : Boxed w b1 23 (.slice A m c)) (c2 : Boxed w b2 3 (.int .i64 1)) :
  SeqU Try.prog 90 #[.pointer (some ⟨b1, 0, none⟩), .pointer (some ⟨b2, 0, none⟩)] (encI A) (List.range m) (fun k => k = b1 ∨ k = b2) w := fun l n J Jx U0 W hW sJ sJx lJ lJx hM hY h0 =>
 chunkI_in n l b1 b2 A m c hm hmc hA J Jx U0 sJ sJx lJ lJx hY W ((hW.block b1 c1.lt).trans c1) ((hW.block b2 c2.lt).trans c2) (hM b1 (.inl rfl)) (hM b2 (.inr rfl)) h0
def szsI (l : List It) (i : Nat) : Int := (sizeI ((l.drop i).take 1) : Nat)
theorem szsI_map (l : List It) : (List.range l.length).map (szsI l) = l.map (fun x : It => ((sizeI [x] : Nat) : Int)) := by
 apply List.ext_getElem
 ·simp
 ·intro i h1 h2
  simp only [List.getElem_map, List.getElem_range, szsI]
  have hi : i < l.length := by simpa using h1
  have : (l.drop i).take 1 = [l[i]] := by rw [List.drop_eq_getElem_cons hi]; rfl
  rw [this]
theorem sz_segI (l : List It) (i j : Nat) : sizeI ((l.drop i).take j) ≤ sizeI l := by
 have h1 : ∀ m : List It, sizeI (m.take j) ≤ sizeI m := fun m => sizeI_take_le m j
 have h2 : ∀ (m : List It) (i : Nat), sizeI (m.drop i) ≤ sizeI m := by
  intro m
  induction m with
  | nil => intro i; simp
  | cons b m ih =>
   intro i
   cases i with
   | zero => exact Nat.le_refl _
   | succ i => have := ih i; simp only [List.drop_succ_cons, sizeI]; omega
 exact Nat.le_trans (h1 _) (h2 _ _)
def PartII (w : World) (l : List It) (pre : List Nat) (U : Nat → Prop) (W : World) : Prop :=
 ∃ V, (∀ k, U k ↔ k < w.heap.size + 2 ∨ V.ownBlock = some k) ∧ Boxed W (w.heap.size + 1) 22 V ∧ W.ownsRow (w.heap.size + 4) 3 1 V pre.length (icells (pre.map (szsI l))) ∧ Blk W w.heap.size 74 #[.func (.func 47) #[] #[], .func (.func 48) #[] #[], .func (.func 49) #[] #[]] ∧ Below w.heap.size w W ∧ w.heap.size + 4 ≤ W.heap.size
theorem partII_stab (w : World) (l : List It) : StabU (PartII w l) := fun pre U W W' h hk => by
 obtain ⟨V, h1, h2, h3, h4, h5, h6⟩ := h
 refine ⟨V, h1, (hk.block _ h2.lt ((h1 _).2 (.inl (by omega)))).trans h2, ?_, (hk.block _ h4.lt ((h1 _).2 (.inl (by omega)))).trans h4, ?_, Nat.le_trans h6 hk.size⟩
 ·refine ⟨h3.1, ?_⟩
  rcases h3.2 with h0 | ⟨g, cap, cur, rfl, hb, hh, r⟩
  ·exact .inl h0
  ·exact .inr ⟨g, cap, cur, rfl, hb, (hk.block g (Array.getElem?_eq_some_iff.1 hh).1 ((h1 _).2 (by simp [Value.ownBlock]))).trans hh, r⟩
 ·exact ⟨hk.os.trans h5.os, hk.tape.trans h5.tape, hk.output.trans h5.output, Nat.le_trans h5.size hk.size, fun k hl => (hk.block k (Nat.lt_of_lt_of_le hl h5.size) ((h1 k).2 (.inl (by omega)))).trans (h5.block k hl)⟩
theorem partII_lt (w : World) (l : List It) : LtU (PartII w l) := fun pre U W h k hk => by
 obtain ⟨V, h1, h2, h3, h4, h5, h6⟩ := h
 have := h2.lt
 rcases (h1 k).1 hk with h | h
 ·omega
 ·exact (h3.lt k h).2
def PartAI (w : World) (l : List It) (act : Nat → Act) (pre : List Nat) (x : Nat) (a' : Act) (U : Nat → Prop) (W : World) : Prop := PartII w l pre U W ∧ a' = act x
set_option maxRecDepth 100000 in
set_option maxHeartbeats 25600000 in
theorem partsI_any (A : Option Addr) (n c : Nat) (l : List It) (room : Int) (w : World) (hr : Reads w w.heap.size 5 A n (itc l)) (hn : n ≤ 1000000) (hnc : n ≤ c) (hx : NearI l) (hs : sizeI l ≤ 9007199254740992) (hr1 : -9223372036854775808 ≤ room) (hr2 : room ≤ 9223372036854775807) :
  Calls Try.prog 45 #[.slice A n c, .int .i64 room, elI] w fun e w' => ∃ A' n' c' vs, e = .returned (.slice A' n' c') ∧ w'.ownsRow w.heap.size 23 1 (.slice A' n' c') n' vs ∧ NsAt 46 5 itc w' vs (cutP (fun x : It => ((sizeI [x] : Nat) : Int)) room l) ∧ Below w.heap.size w w' := by
 obtain ⟨i0, hi0, hz0, hz1, hz2⟩ := info_parts infoI13
 obtain ⟨j0, hj0, hy0, hy1, hy2⟩ := info_parts infoSI
 have HR := Lib.hid hr
 have HL := Lib.hid (it_len hr)
 have HS := Lib.hid hs
 have HA := Lib.hid (fun h : 0 < n => (hr.2 h).imp fun ad h => h.1)
 have HX := Lib.hid hx
 unfold elI
 clear hr hs hx
 refine (callsIn_wide (n := 9)).1 ?_
 refine callsIn_of_wp_marks Try.func45 rfl trivial ?_ rfl
 simp only [Try.ntmps45, List.size_toArray, List.length_cons, List.length_nil, Nat.reduceAdd, Nat.reduceSub, Array.replicate_succ, Array.replicate_zero, List.push_toArray, List.append_toArray, List.nil_append, List.cons_append]
 gi_wp2_with (refine ⟨trivial, ?_⟩; gi_at_call 72; refine (callsIn_wide.2 (chunkI_any A n c _)).mono ?_; rintro e w1 ⟨rfl, rfl⟩)
 obtain ⟨W1, hW1⟩ : ∃ W1, W1 = ((((w.alloc (.cells #[.func (.func 47) #[] #[], .func (.func 48) #[] #[], .func (.func 49) #[] #[]] 74)).alloc (.cells #[.slice none 0 0] 22)).alloc (.cells #[.slice A n c] 23)).alloc (.cells #[.int .i64 1] 3)) := ⟨_, rfl⟩
 rw [← hW1]
 have r0 : Blk W1 w.heap.size 74 #[.func (.func 47) #[] #[], .func (.func 48) #[] #[], .func (.func 49) #[] #[]] := by rw [hW1]; exact (((Blk.new w 74 #[.func (.func 47) #[] #[], .func (.func 48) #[] #[], .func (.func 49) #[] #[]]).alloc _).alloc _).alloc _
 have r1 : Boxed W1 (w.heap.size + 1) 22 (.slice none 0 0) := by
  rw [hW1]
  have h := ((Boxed.new (w.alloc (.cells #[.func (.func 47) #[] #[], .func (.func 48) #[] #[], .func (.func 49) #[] #[]] 74)) 22 (.slice none 0 0)).alloc (.cells #[.slice A n c] 23)).alloc (.cells #[.int .i64 1] 3)
  simpa using h
 have r2 : Boxed W1 (w.heap.size + 1 + 1) 23 (.slice A n c) := by
  rw [hW1]
  have h := (Boxed.new ((w.alloc (.cells #[.func (.func 47) #[] #[], .func (.func 48) #[] #[], .func (.func 49) #[] #[]] 74)).alloc (.cells #[.slice none 0 0] 22)) 23 (.slice A n c)).alloc (.cells #[.int .i64 1] 3)
  simpa using h
 have r3 : Boxed W1 (w.heap.size + 1 + 1 + 1) 3 (.int .i64 1) := by
  rw [hW1]
  have h := Boxed.new (((w.alloc (.cells #[.func (.func 47) #[] #[], .func (.func 48) #[] #[], .func (.func 49) #[] #[]] 74)).alloc (.cells #[.slice none 0 0] 22)).alloc (.cells #[.slice A n c] 23)) 3 (.int .i64 1)
  simpa using h
 have hbW : Below w.heap.size w W1 := by rw [hW1]; exact ((((Below.refl _ w).alloc (Nat.le_refl _) _).alloc (by simp) _).alloc (by simp; omega) _).alloc (by simp; omega) _
 have hsW : W1.heap.size = w.heap.size + 4 := by rw [hW1]; simp
 have hseq := chunkI_seq (w.heap.size + 1 + 1) (w.heap.size + 1 + 1 + 1) A n c hn hnc HA.out W1 r2 r3
 clear hW1 r2 r3
 refine wpIn_rangeFunc_U (gf := 90) (lb := #[.pointer (some ⟨w.heap.size + 1 + 1, 0, none⟩), .pointer (some ⟨w.heap.size + 1 + 1 + 1, 0, none⟩)]) rfl (fun _ _ => by first | rfl | kernel_rfl) hseq (Below.refl _ _) (by rintro k (rfl | rfl) <;> omega) (fun _ => rfl)
  (PartII w l) (fun _ _ _ _ => False)
  (PartAI w l (fun x => { tmps := #[.slice A n c, .int .i64 room, .agg #[.func (.func 47) #[] #[], .func (.func 48) #[] #[], .func (.func 49) #[] #[]], undef, undef, .pointer (some ⟨w.heap.size, 0, none⟩), .slice none 0 0, .pointer (some ⟨w.heap.size + 1, 0, none⟩), .slice (A.map (·.add (x * 5))) 1 1, undef, undef, undef, undef, .slice A n c, .func (.func 90) #[] #[.pointer (some ⟨w.heap.size + 1 + 1, 0, none⟩), .pointer (some ⟨w.heap.size + 1 + 1 + 1, 0, none⟩)], .slice (A.map (·.add (x * 5))) 1 1, undef, undef, undef, undef, undef, undef, undef, undef, undef, undef, undef, undef, undef, undef, undef, undef, undef, undef, undef, undef, undef, undef, undef, undef, undef, undef], defers := [] }))
  (partII_stab w l) (fun _ _ _ _ _ h _ => h) (fun pre x a' _ U W W' h hk => ⟨partII_stab w l _ _ _ _ h.1 hk, h.2⟩) (partII_lt w l) (fun _ _ _ _ h => h.elim)
  (fun k => k < w.heap.size + 2 ∨ (Value.slice none 0 0).ownBlock = some k) (by
   rintro k (rfl | rfl) (h | h)
   ·omega
   ·simp [Value.ownBlock] at h
   ·omega
   ·simp [Value.ownBlock] at h)
  ⟨_, fun _ => Iff.rfl, r1, World.ownsRow_nil _ _ _ _, r0, hbW, by omega⟩ ?assign ?body ?done ?stop
 case stop =>
  rintro D c pre U W _ _ _ h
  exact h.elim
 case assign =>
  intro m l' pre x U' W K hI hx hK
  have HC := Lib.hid (hK _ U' W (fun k h => .inl h) (Kept.refl _ _) ⟨hI, rfl⟩)
  clear hK hI
  simp only [encI]
  gi_wp2
  exact HC.out
 case body =>
  rintro m l' pre x a' U' W ⟨hI, rfl⟩ hx
  obtain ⟨V, hU, k1, hrow, kE, hB, hW4⟩ := hI
  obtain ⟨hxn, hxp⟩ := prefix_range hx
  have hpn : pre.length < n := hxp ▸ hxn
  have HRx := Lib.hid (show Reads W W.heap.size 5 (A.map (·.add (x * 5))) 1 (itc ((l.drop x).take 1)) from by
   have h1 := it_drop HR.out (Nat.le_of_lt hxn) hnc
   rw [if_neg (show ¬ c = x by omega)] at h1
   exact ((it_take h1 (show 1 ≤ n - x by omega)).below hB).more hB.size)
  obtain ⟨Av, cv, hV, hvc, hvm, hvA⟩ := own_form hrow
  subst hV
  have HK1 := Lib.hid k1
  have HKE := Lib.hid kE
  have HRow := Lib.hid hrow
  have HBw := Lib.hid hB
  have HU := Lib.hid hU
  have hbase := Lib.hid (own_base hrow)
  have hWs : w.heap.size + 2 ≤ W.heap.size := by have := k1.lt; omega
  have hsz1 : sizeI ((l.drop x).take 1) ≤ 9007199254740992 := Nat.le_trans (sz_segI l x 1) HS.out
  have hnx : NearI ((l.drop x).take 1) := fun b hb => HX.out b (List.mem_of_mem_drop (List.mem_of_mem_take hb))
  have hq1 := kE.cell 1
  simp at hq1
  have HQ1 := Lib.hid hq1
  obtain ⟨sv, hsv⟩ : ∃ sv, sv = sizeI ((l.drop x).take 1) := ⟨_, rfl⟩
  have HSv := Lib.hid (show szsI l x = (sv : Int) by rw [hsv]; rfl)
  have HSize := Lib.hid (fun w' (hb : Below W.heap.size W w') => lsize_any (A.map (·.add (x * 5))) 1 1 ((l.drop x).take 1) w' ((HRx.out.below hb).more hb.size) (by omega) hnx hsz1)
  rw [← hsv] at HSize
  clear k1 kE hrow hB hU hq1 hsv hsz1 hnx hvA hxp
  gi_upto_region 4 with fail
  have hlo : ∀ (Q : Exit → Act → World → Prop), (∀ a w, ¬ Q .outgrown a w) → ¬ LetsOut Q := fun Q h ⟨a, w, h2⟩ => h a w h2
  refine region_held_round l' (S := fun w' => w'.cell? ⟨w.heap.size, 1, none⟩ = some (.func (.func 48) #[] #[])) ?lo (by kernel_rfl) (by kernel_rfl) (show W.drew.cell? _ = _ from HQ1.out) (fun _ => ?_)
  case lo =>
   rintro ⟨a, w, h⟩
   exact h
  refine tkA (i := 1) ?_
  try simp only [tkP]
  refine tkA (i := 2) ?_
  try simp only [tkP]
  refine tkA (i := 3) ?_
  try simp only [tkP]
  have HBx := Lib.hid ((Below.refl W.heap.size W).drew)
  refine wpAnyH_ready (rs := [0, 4]) (by kernel_rfl) (by simp) ?_
  refine AllReadyH.consL rfl (fun K hK => ?_) (AllReadyH.consL rfl (fun K hK => ?_) AllReadyH.nil)
  ·
   have cV := (HBx.out.cell (p := ⟨w.heap.size + 1, 0, none⟩) (by show w.heap.size + 1 < _; omega)).trans HK1.out.cell
   go_simp
   refine hK.out _ _ ((HBx.out.cell (p := ⟨w.heap.size, 1, none⟩) (by show w.heap.size < _; omega)).trans HQ1.out) (fun hHeld => ?_)
   clear hK K
   clear cV
   try simp only [tkP]
   refine wpAnyH_ready (rs := [4]) (by kernel_rfl) (by simp) ?_
   refine tkC (fun K hK => ?_)
   go_simp
   refine (HSize.out _ HBx.out).mono ?_
   rintro e wx ⟨rfl, hb⟩
   replace HBx := Lib.hid (HBx.out.trans (hb.mono HBx.out.size))
   clear hb
   refine hK.out _ _ ((HBx.out.cell (p := ⟨w.heap.size, 1, none⟩) (by show w.heap.size < _; omega)).trans HQ1.out) (fun hHeld => ?_)
   clear hK K
   try simp only [tkP]
   refine wpAnyH_ready (rs := [5]) (by kernel_rfl) (by simp) ?_
   refine tkC (fun K hK => ?_)
   go_simp
   have HAr := Lib.hid ((one_read wx 3 (.int .i64 (sv : Int))).more (B' := (wx.alloc (.cells #[.int .i64 (sv : Int)] 3)).heap.size) (by simp))
   replace HBx := Lib.hid (HBx.out.alloc HBx.out.size (.cells #[.int .i64 (sv : Int)] 3))
   obtain ⟨ab, hab⟩ : ∃ y, y = wx.heap.size := ⟨_, rfl⟩
   obtain ⟨wy, hwy⟩ : ∃ y, y = wx.alloc (.cells #[.int .i64 (sv : Int)] 3) := ⟨_, rfl⟩
   rw [← hwy] at HAr HBx ⊢
   rw [← hab] at HAr ⊢
   clear hwy hab
   refine hK.out _ _ ((HBx.out.cell (p := ⟨w.heap.size, 1, none⟩) (by show w.heap.size < _; omega)).trans HQ1.out) (fun hHeld => ?_)
   clear hK K
   try simp only [tkP]
   refine wpAnyH_ready (rs := [6]) (by kernel_rfl) (by simp) ?_
   refine tkC (fun K hK => ?_)
   refine wp_append_any _ (.tmp 16) (.tmp 21) _ rfl (w.heap.size + 4) 3 i0 _ 1 8 Try.underlying22 hi0 hz0 hz1 hz2 rfl (by omega) _ pre.length _ rfl (own_below HRow.out HBx.out) wy.heap.size (some ⟨ab, 0, none⟩) 1 1 [.int .i64 (sv : Int)] rfl HAr.out (fun u hu => by simp at hu; subst hu; rfl) (by unfold maxLen; omega) (by omega) (by have := HBx.out.size; omega) ?_
   intro v5 w5 hown5 hg5 hat5
   obtain ⟨A5, c5, rfl, _, _, _⟩ := own_form hown5
   have k5 := ((show Boxed wy (w.heap.size + 1) 22 (.slice Av pre.length cv) from (HBx.out.block _ HK1.out.lt).trans HK1.out)).kept hg5 (own_ne HRow.out (by omega))
   have e5 := ((show Blk wy w.heap.size 74 #[.func (.func 47) #[] #[], .func (.func 48) #[] #[], .func (.func 49) #[] #[]] from (HBx.out.block _ HKE.out.lt).trans HKE.out)).grown hg5 (own_ne HRow.out (by omega))
   have q5 := e5.cell 1
   simp at q5
   have HG5 := Lib.hid hg5
   have HO5 := Lib.hid hown5
   have HT5 := Lib.hid hat5
   have HK5 := Lib.hid k5
   have HE5 := Lib.hid e5
   have HQ5 := Lib.hid q5
   clear hg5 hown5 hat5 k5 e5
   refine hK.out _ _ q5 (fun hHeld => ?_)
   clear hK K q5
   try simp only [tkP]
   refine wpAnyH_ready (rs := [7]) (by kernel_rfl) (by simp) ?_
   refine tkC (fun K hK => ?_)
   have c5c := HK5.out.cell
   have c5f := HK5.out.frozen
   go_simp
   have q6 := ((HE5.out.far (p := ⟨w.heap.size + 1, 0, none⟩) (by show w.heap.size ≠ w.heap.size + 1; omega) (.slice A5 (pre.length + 1) c5)).cell 1)
   simp at q6
   refine hK.out _ _ q6 (fun hHeld => ?_)
   clear hK K c5c c5f q6
   try simp only [tkP]
   refine wpAnyH_done (by kernel_rfl) ?_ _
   gi_wp2
   refine ⟨fun k => k < w.heap.size + 2 ∨ (Value.slice A5 (pre.length + 1) c5).ownBlock = some k, fun k hk => ?_, ?_, .slice A5 (pre.length + 1) c5, fun k => Iff.rfl, HK5.out.set _, ?_, HE5.out.far (by show w.heap.size ≠ w.heap.size + 1; omega) _, ?_, ?_⟩
   ·rcases hk with h | h
    ·exact .inl ((HU.out k).2 (.inl h))
    ·rcases HT5.out with h2 | h2
     ·exact .inl ((HU.out k).2 (.inr (h2 ▸ h)))
     ·rw [h2] at h
      injection h with h
      have := HBx.out.size
      right; omega
   ·exact ((Kept.of_new HBx.out).grown HG5.out (fun k e => .inl ((HU.out k).2 (.inr e)))).setCell (.inl ((HU.out (w.heap.size + 1)).2 (.inl (by omega)))) _
   ·rw [List.length_append, List.map_append, List.map_singleton, HSv.out]
    exact (show (icells (pre.map (szsI l) ++ [(sv : Int)])) = icells (pre.map (szsI l)) ++ [.int .i64 (sv : Int)] by simp [icells]) ▸ (HO5.out.kept (grownBy_setCell' w5 (w.heap.size + 1) _) (.inr fun e => own_ne HO5.out (by omega) e.symm))
   ·exact (((HBw.out.trans (HBx.out.mono HBw.out.size)).grown HG5.out (by have := HBx.out.size; omega) (fun g hg => by have := hbase.out g hg; omega)).setCell (p := ⟨w.heap.size + 1, 0, none⟩) (by show w.heap.size ≤ w.heap.size + 1; omega) _)
   ·have := HBx.out.size
    have := HG5.out.size
    exact Nat.le_trans (show w.heap.size + 4 ≤ w5.heap.size by omega) (grownBy_setCell' w5 (w.heap.size + 1) _).size
  ·
   go_simp
   refine (HSize.out _ HBx.out).mono ?_
   rintro e wx ⟨rfl, hb⟩
   replace HBx := Lib.hid (HBx.out.trans (hb.mono HBx.out.size))
   clear hb
   refine hK.out _ _ ((HBx.out.cell (p := ⟨w.heap.size, 1, none⟩) (by show w.heap.size < _; omega)).trans HQ1.out) (fun hHeld => ?_)
   clear hK K
   try simp only [tkP]
   refine wpAnyH_ready (rs := [0, 5]) (by kernel_rfl) (by simp) ?_
   refine AllReadyH.consL rfl (fun K hK => ?_) (AllReadyH.consL rfl (fun K hK => ?_) AllReadyH.nil)
   ·
    have cV := (HBx.out.cell (p := ⟨w.heap.size + 1, 0, none⟩) (by show w.heap.size + 1 < _; omega)).trans HK1.out.cell
    go_simp
    refine hK.out _ _ ((HBx.out.cell (p := ⟨w.heap.size, 1, none⟩) (by show w.heap.size < _; omega)).trans HQ1.out) (fun hHeld => ?_)
    clear hK K
    clear cV
    try simp only [tkP]
    refine wpAnyH_ready (rs := [5]) (by kernel_rfl) (by simp) ?_
    refine tkC (fun K hK => ?_)
    go_simp
    have HAr := Lib.hid ((one_read wx 3 (.int .i64 (sv : Int))).more (B' := (wx.alloc (.cells #[.int .i64 (sv : Int)] 3)).heap.size) (by simp))
    replace HBx := Lib.hid (HBx.out.alloc HBx.out.size (.cells #[.int .i64 (sv : Int)] 3))
    obtain ⟨ab, hab⟩ : ∃ y, y = wx.heap.size := ⟨_, rfl⟩
    obtain ⟨wy, hwy⟩ : ∃ y, y = wx.alloc (.cells #[.int .i64 (sv : Int)] 3) := ⟨_, rfl⟩
    rw [← hwy] at HAr HBx ⊢
    rw [← hab] at HAr ⊢
    clear hwy hab
    refine hK.out _ _ ((HBx.out.cell (p := ⟨w.heap.size, 1, none⟩) (by show w.heap.size < _; omega)).trans HQ1.out) (fun hHeld => ?_)
    clear hK K
    try simp only [tkP]
    refine wpAnyH_ready (rs := [6]) (by kernel_rfl) (by simp) ?_
    refine tkC (fun K hK => ?_)
    refine wp_append_any _ (.tmp 16) (.tmp 21) _ rfl (w.heap.size + 4) 3 i0 _ 1 8 Try.underlying22 hi0 hz0 hz1 hz2 rfl (by omega) _ pre.length _ rfl (own_below HRow.out HBx.out) wy.heap.size (some ⟨ab, 0, none⟩) 1 1 [.int .i64 (sv : Int)] rfl HAr.out (fun u hu => by simp at hu; subst hu; rfl) (by unfold maxLen; omega) (by omega) (by have := HBx.out.size; omega) ?_
    intro v5 w5 hown5 hg5 hat5
    obtain ⟨A5, c5, rfl, _, _, _⟩ := own_form hown5
    have k5 := ((show Boxed wy (w.heap.size + 1) 22 (.slice Av pre.length cv) from (HBx.out.block _ HK1.out.lt).trans HK1.out)).kept hg5 (own_ne HRow.out (by omega))
    have e5 := ((show Blk wy w.heap.size 74 #[.func (.func 47) #[] #[], .func (.func 48) #[] #[], .func (.func 49) #[] #[]] from (HBx.out.block _ HKE.out.lt).trans HKE.out)).grown hg5 (own_ne HRow.out (by omega))
    have q5 := e5.cell 1
    simp at q5
    have HG5 := Lib.hid hg5
    have HO5 := Lib.hid hown5
    have HT5 := Lib.hid hat5
    have HK5 := Lib.hid k5
    have HE5 := Lib.hid e5
    have HQ5 := Lib.hid q5
    clear hg5 hown5 hat5 k5 e5
    refine hK.out _ _ q5 (fun hHeld => ?_)
    clear hK K q5
    try simp only [tkP]
    refine wpAnyH_ready (rs := [7]) (by kernel_rfl) (by simp) ?_
    refine tkC (fun K hK => ?_)
    have c5c := HK5.out.cell
    have c5f := HK5.out.frozen
    go_simp
    have q6 := ((HE5.out.far (p := ⟨w.heap.size + 1, 0, none⟩) (by show w.heap.size ≠ w.heap.size + 1; omega) (.slice A5 (pre.length + 1) c5)).cell 1)
    simp at q6
    refine hK.out _ _ q6 (fun hHeld => ?_)
    clear hK K c5c c5f q6
    try simp only [tkP]
    refine wpAnyH_done (by kernel_rfl) ?_ _
    gi_wp2
    refine ⟨fun k => k < w.heap.size + 2 ∨ (Value.slice A5 (pre.length + 1) c5).ownBlock = some k, fun k hk => ?_, ?_, .slice A5 (pre.length + 1) c5, fun k => Iff.rfl, HK5.out.set _, ?_, HE5.out.far (by show w.heap.size ≠ w.heap.size + 1; omega) _, ?_, ?_⟩
    ·rcases hk with h | h
     ·exact .inl ((HU.out k).2 (.inl h))
     ·rcases HT5.out with h2 | h2
      ·exact .inl ((HU.out k).2 (.inr (h2 ▸ h)))
      ·rw [h2] at h
       injection h with h
       have := HBx.out.size
       right; omega
    ·exact ((Kept.of_new HBx.out).grown HG5.out (fun k e => .inl ((HU.out k).2 (.inr e)))).setCell (.inl ((HU.out (w.heap.size + 1)).2 (.inl (by omega)))) _
    ·rw [List.length_append, List.map_append, List.map_singleton, HSv.out]
     exact (show (icells (pre.map (szsI l) ++ [(sv : Int)])) = icells (pre.map (szsI l)) ++ [.int .i64 (sv : Int)] by simp [icells]) ▸ (HO5.out.kept (grownBy_setCell' w5 (w.heap.size + 1) _) (.inr fun e => own_ne HO5.out (by omega) e.symm))
    ·exact (((HBw.out.trans (HBx.out.mono HBw.out.size)).grown HG5.out (by have := HBx.out.size; omega) (fun g hg => by have := hbase.out g hg; omega)).setCell (p := ⟨w.heap.size + 1, 0, none⟩) (by show w.heap.size ≤ w.heap.size + 1; omega) _)
    ·have := HBx.out.size
     have := HG5.out.size
     exact Nat.le_trans (show w.heap.size + 4 ≤ w5.heap.size by omega) (grownBy_setCell' w5 (w.heap.size + 1) _).size
   ·
    go_simp
    have HAr := Lib.hid ((one_read wx 3 (.int .i64 (sv : Int))).more (B' := (wx.alloc (.cells #[.int .i64 (sv : Int)] 3)).heap.size) (by simp))
    replace HBx := Lib.hid (HBx.out.alloc HBx.out.size (.cells #[.int .i64 (sv : Int)] 3))
    obtain ⟨ab, hab⟩ : ∃ y, y = wx.heap.size := ⟨_, rfl⟩
    obtain ⟨wy, hwy⟩ : ∃ y, y = wx.alloc (.cells #[.int .i64 (sv : Int)] 3) := ⟨_, rfl⟩
    rw [← hwy] at HAr HBx ⊢
    rw [← hab] at HAr ⊢
    clear hwy hab
    refine hK.out _ _ ((HBx.out.cell (p := ⟨w.heap.size, 1, none⟩) (by show w.heap.size < _; omega)).trans HQ1.out) (fun hHeld => ?_)
    clear hK K
    try simp only [tkP]
    refine wpAnyH_ready (rs := [0]) (by kernel_rfl) (by simp) ?_
    refine tkC (fun K hK => ?_)
    have cV := (HBx.out.cell (p := ⟨w.heap.size + 1, 0, none⟩) (by show w.heap.size + 1 < _; omega)).trans HK1.out.cell
    go_simp
    refine hK.out _ _ ((HBx.out.cell (p := ⟨w.heap.size, 1, none⟩) (by show w.heap.size < _; omega)).trans HQ1.out) (fun hHeld => ?_)
    clear hK K
    clear cV
    try simp only [tkP]
    refine wpAnyH_ready (rs := [6]) (by kernel_rfl) (by simp) ?_
    refine tkC (fun K hK => ?_)
    refine wp_append_any _ (.tmp 16) (.tmp 21) _ rfl (w.heap.size + 4) 3 i0 _ 1 8 Try.underlying22 hi0 hz0 hz1 hz2 rfl (by omega) _ pre.length _ rfl (own_below HRow.out HBx.out) wy.heap.size (some ⟨ab, 0, none⟩) 1 1 [.int .i64 (sv : Int)] rfl HAr.out (fun u hu => by simp at hu; subst hu; rfl) (by unfold maxLen; omega) (by omega) (by have := HBx.out.size; omega) ?_
    intro v5 w5 hown5 hg5 hat5
    obtain ⟨A5, c5, rfl, _, _, _⟩ := own_form hown5
    have k5 := ((show Boxed wy (w.heap.size + 1) 22 (.slice Av pre.length cv) from (HBx.out.block _ HK1.out.lt).trans HK1.out)).kept hg5 (own_ne HRow.out (by omega))
    have e5 := ((show Blk wy w.heap.size 74 #[.func (.func 47) #[] #[], .func (.func 48) #[] #[], .func (.func 49) #[] #[]] from (HBx.out.block _ HKE.out.lt).trans HKE.out)).grown hg5 (own_ne HRow.out (by omega))
    have q5 := e5.cell 1
    simp at q5
    have HG5 := Lib.hid hg5
    have HO5 := Lib.hid hown5
    have HT5 := Lib.hid hat5
    have HK5 := Lib.hid k5
    have HE5 := Lib.hid e5
    have HQ5 := Lib.hid q5
    clear hg5 hown5 hat5 k5 e5
    refine hK.out _ _ q5 (fun hHeld => ?_)
    clear hK K q5
    try simp only [tkP]
    refine wpAnyH_ready (rs := [7]) (by kernel_rfl) (by simp) ?_
    refine tkC (fun K hK => ?_)
    have c5c := HK5.out.cell
    have c5f := HK5.out.frozen
    go_simp
    have q6 := ((HE5.out.far (p := ⟨w.heap.size + 1, 0, none⟩) (by show w.heap.size ≠ w.heap.size + 1; omega) (.slice A5 (pre.length + 1) c5)).cell 1)
    simp at q6
    refine hK.out _ _ q6 (fun hHeld => ?_)
    clear hK K c5c c5f q6
    try simp only [tkP]
    refine wpAnyH_done (by kernel_rfl) ?_ _
    gi_wp2
    refine ⟨fun k => k < w.heap.size + 2 ∨ (Value.slice A5 (pre.length + 1) c5).ownBlock = some k, fun k hk => ?_, ?_, .slice A5 (pre.length + 1) c5, fun k => Iff.rfl, HK5.out.set _, ?_, HE5.out.far (by show w.heap.size ≠ w.heap.size + 1; omega) _, ?_, ?_⟩
    ·rcases hk with h | h
     ·exact .inl ((HU.out k).2 (.inl h))
     ·rcases HT5.out with h2 | h2
      ·exact .inl ((HU.out k).2 (.inr (h2 ▸ h)))
      ·rw [h2] at h
       injection h with h
       have := HBx.out.size
       right; omega
    ·exact ((Kept.of_new HBx.out).grown HG5.out (fun k e => .inl ((HU.out k).2 (.inr e)))).setCell (.inl ((HU.out (w.heap.size + 1)).2 (.inl (by omega)))) _
    ·rw [List.length_append, List.map_append, List.map_singleton, HSv.out]
     exact (show (icells (pre.map (szsI l) ++ [(sv : Int)])) = icells (pre.map (szsI l)) ++ [.int .i64 (sv : Int)] by simp [icells]) ▸ (HO5.out.kept (grownBy_setCell' w5 (w.heap.size + 1) _) (.inr fun e => own_ne HO5.out (by omega) e.symm))
    ·exact (((HBw.out.trans (HBx.out.mono HBw.out.size)).grown HG5.out (by have := HBx.out.size; omega) (fun g hg => by have := hbase.out g hg; omega)).setCell (p := ⟨w.heap.size + 1, 0, none⟩) (by show w.heap.size ≤ w.heap.size + 1; omega) _)
    ·have := HBx.out.size
     have := HG5.out.size
     exact Nat.le_trans (show w.heap.size + 4 ≤ w5.heap.size by omega) (grownBy_setCell' w5 (w.heap.size + 1) _).size
 case done =>
  rintro D U' W hD hnD ⟨V, hU, k1, hrow, kE, hB, hW4⟩ hK
  rw [← HL.out, szsI_map] at hrow
  rw [List.length_range, HL.out] at hrow
  obtain ⟨Av, cv, hV, hvc, hvm, hvA⟩ := own_form hrow
  subst hV
  have c1 := k1.cell
  have HD := Lib.hid (show W.heap[D]? = some (.deferred (some [])) from hK)
  have hDl : D < W.heap.size := (Array.getElem?_eq_some_iff.1 hK).1
  have HDl := Lib.hid hDl
  have HI := Lib.hid (Reads.of_own hrow)
  have HBw := Lib.hid hB
  have HD4 := Lib.hid hD
  have hB64 : ∀ x ∈ l.map (fun x : It => ((sizeI [x] : Nat) : Int)), -9223372036854775808 ≤ x ∧ x ≤ 9223372036854775807 := fun x hx => by
   obtain ⟨b, hb, rfl⟩ := List.mem_map.1 hx
   obtain ⟨i, hi, rfl⟩ := List.mem_iff_getElem.1 hb
   have h1 := sz_segI l i 1
   rw [List.drop_eq_getElem_cons hi] at h1
   have h2 := HS.out
   have h3 : sizeI [l[i]] ≤ sizeI l := h1
   show -9223372036854775808 ≤ ((sizeI [l[i]] : Nat) : Int) ∧ ((sizeI [l[i]] : Nat) : Int) ≤ 9223372036854775807
   omega
  have HB64 := Lib.hid hB64
  obtain ⟨E, hE⟩ : ∃ E, E = cutL (l.map (fun x : It => ((sizeI [x] : Nat) : Int))) room := ⟨_, rfl⟩
  have HEm := Lib.hid (show ∀ i e, E[i]? = some e → prevE E i ≤ e ∧ e ≤ n from fun i e h => by
   rw [hE] at h ⊢
   have := cutL_mono h
   rw [List.length_map, HL.out] at this
   exact this)
  have HE := Lib.hid hE
  clear hrow hB hU kE hnD hK hD hDl hvA hB64 hE k1
  gi_wp2_with (refine ⟨trivial, ?_⟩; gi_at_call 16; refine (callsIn_wide.2 (cut_any Av n cv (l.map (fun x : It => ((sizeI [x] : Nat) : Int))) room _ (Nat.le_refl _) HI.out hn HB64.out hr1 hr2)).mono ?_; rintro e w2 ⟨A2, m2, c2, rfl, ho2, hb2⟩; rw [← HE.out] at ho2; have HO2 := Lib.hid (Reads.of_own ho2); have HB2 := Lib.hid hb2; have hm2 := HO2.out.1; rw [ncells_len] at hm2; have HM2 := Lib.hid hm2; clear ho2 hb2 hm2 c1)
  have HEl := Lib.hid (show E.length ≤ n by rw [HE.out]; have := (cutL_length (l.map (fun x : It => ((sizeI [x] : Nat) : Int))) room).1; rw [List.length_map, HL.out] at this; exact this)
  have hm2n : m2 ≤ 1000000 := by have := HM2.out; have := HEl.out; omega
  gi_loopw [9, 10, 12, 27] (fun va vb ve vi wr => ∃ (k : Nat) (A' : Option Addr) (c' : Nat) (vs : List Value), k ≤ m2 ∧ vi = .int .i64 k ∧ vb = .int .i64 (prevE E k : Nat) ∧ va = .slice A' k c' ∧ Hid (wr.ownsRow w2.heap.size 23 1 (.slice A' k c') k vs) ∧ Hid (NsAt 46 5 itc wr vs (partsBy l 0 (E.take k))) ∧ Hid (Below w2.heap.size w2 wr)) (fun _ _ _ vi _ => m2 - (RowKit.intOf vi).toNat)
  case atStart => exact ⟨0, none, 0, [], Nat.zero_le _, rfl, rfl, rfl, Lib.hid (World.ownsRow_nil _ _ _ _), Lib.hid (NsAt.nil _), Lib.hid (Below.refl _ _)⟩
  case round =>
   obtain ⟨k, A', c', vs, hk, rfl, rfl, rfl, HO, HNs, HBr⟩ := hrel
   by_cases hlt : k < m2
   ·obtain ⟨ad, eI, rfl, _, hx, hc⟩ := iread_at (l := E.map fun (q : Nat) => (q : Int)) (by rw [← icells_of]; exact HO2.out.below HBr.out) hlt
    rw [List.getElem?_map, Option.map_eq_some_iff] at hx
    obtain ⟨e, hx, rfl⟩ := hx
    obtain ⟨hse, hen⟩ := HEm.out k e hx
    have HNx := Lib.hid (show prevE E (k + 1) = e by unfold prevE; rw [if_neg (by omega), Nat.add_sub_cancel, List.getD_eq_getElem?_getD, hx]; rfl)
    have HPt := Lib.hid (show partsBy l 0 (E.take (k + 1)) = partsBy l 0 (E.take k) ++ [(l.drop (prevE E k)).take (e - prevE E k)] by
     have hkE := (List.getElem?_eq_some_iff.1 hx).1
     rw [List.take_add_one, hx, partsBy_append, prevE_take (Nat.le_of_lt hkE)]
     rfl)
    obtain ⟨s, hs⟩ : ∃ s, s = prevE E k := ⟨_, rfl⟩
    rw [← hs] at hse HPt ⊢
    obtain ⟨X, hX, hmid⟩ := midI A n c s e (s : Int) (e : Int) rfl rfl hse (by omega)
    have HRx := Lib.hid (show Reads W w.heap.size 5 X (e - s) (itc ((l.drop s).take (e - s))) from by
     have h1 := it_drop (HR.out.below HBw.out) (show s ≤ n by omega) hnc
     rw [← hX] at h1
     exact it_take h1 (by omega))
    have hW2 := HB2.out.size
    have hW3 := HBr.out.size
    have hW0 := HBw.out.size
    have HRl := Lib.hid ((HRx.out.below (HB2.out.mono hW0)).below (HBr.out.mono (Nat.le_trans hW0 hW2)))
    have HCl := Lib.hid (cloneI_any X (e - s) (c - s) ((l.drop s).take (e - s)) wr (Nat.le_trans hW0 (Nat.le_trans hW2 hW3)) HRl.out (by omega))
    have HSe := Lib.hid (show ((l.drop s).take (e - s)).length = e - s by rw [List.length_take, List.length_drop, HL.out]; omega)
    have e1 : (0 : Int) ≤ k := by omega
    have e2 : (k : Int) < m2 := by omega
    have HBase := Lib.hid (own_base HO.out)
    clear hs hX hx HRx HRl
    gi_wp2_with (first | (refine ⟨trivial, ?_⟩; gi_at_call 73; refine (callsIn_wide.2 HCl.out).mono ?_; rintro e5 w5 ⟨A5, c5, rfl, ho5, hb5⟩; have HO5 := Lib.hid ho5; have HB5 := Lib.hid hb5; have HOx := Lib.hid (own_below HO.out hb5); have hz5 := hb5.size; clear ho5 hb5) | (gi_at_builtin; refine wpListIn_append_own_at _ rfl _ _ 30 rfl w2.heap.size 23 j0 _ 1 24 Try.underlying30 hj0 hy0 hy1 hy2 rfl (by decide) _ _ _ rfl (HOx.out.alloc _) ⟨w5.heap.size, 0, none⟩ 1 1 [.slice A5 (e - s) c5] rfl rfl (cell_one_new _ _ _) (by simp [Value.oneCell']) (by unfold maxLen; omega) (by omega) (by simp; omega) ?_; intro v6 w6 hown6 hg6 _ hat6; obtain ⟨A6, c6, rfl, _, _, _⟩ := own_form hown6; clear hat6))
    have HN5 := Lib.hid (((HNs.out.below HB5.out).below ((Below.refl _ w5).alloc (Nat.le_refl _) (.cells #[.slice A5 (e - s) c5] 23))).other (HOx.out.alloc (.cells #[.slice A5 (e - s) c5] 23)) (by decide) hg6)
    have HO6 := Lib.hid (show w6.ownsRow 0 46 5 (.slice A5 (e - s) c5) (e - s) (itc ((l.drop s).take (e - s))) from by
     refine (own_low (HO5.out.alloc (.cells #[.slice A5 (e - s) c5] 23)) (Nat.zero_le _)).kept hg6 ?_
     rcases hb : (Value.slice A5 (e - s) c5).ownBlock with _ | b
     ·exact .inl rfl
     ·exact .inr fun h => own_ne_own (HO5.out.alloc (.cells #[.slice A5 (e - s) c5] 23)) (HOx.out.alloc (.cells #[.slice A5 (e - s) c5] 23)) (by decide) hb h.symm)
    have HB6 := Lib.hid (((HBr.out.trans (HB5.out.mono HBr.out.size)).alloc (Nat.le_trans hW3 hz5) (.cells #[.slice A5 (e - s) c5] 23)).grown hg6 (by simp; omega) HBase.out)
    have HN6 := Lib.hid (show NsAt 46 5 itc w6 (vs ++ [.slice A5 (e - s) c5]) (partsBy l 0 (E.take (k + 1))) from by
     rw [HPt.out]
     have h1 := HN5.out.snoc (p := (l.drop s).take (e - s)) (A := A5) (c := c5)
     rw [HSe.out] at h1
     exact h1 HO6.out)
    have HO7 := Lib.hid hown6
    clear hown6 hg6 hmid hc
    gi_wp2
    go_roundw
    case rel =>
     first
      | exact ⟨k + 1, A6, c6, _, by omega, by go_num, by rw [HNx.out], rfl, HO7, HN6, HB6⟩
      | ((repeat apply Exists.intro); exact ⟨⟨k + 1, A6, c6, _, by omega, by go_num, by rw [HNx.out], rfl, HO7, HN6, HB6⟩, rfl⟩)
    case measure => simp [RowKit.intOf]; omega
   ·obtain rfl : k = m2 := by omega
    have e2 : ¬ (k : Int) < k := by omega
    have HKD := Lib.hid (show wr.heap[D]? = some (.deferred (some [])) from (HBr.out.block D (Nat.lt_of_lt_of_le HDl.out HB2.out.size)).trans ((HB2.out.block D HDl.out).trans HD.out))
    have HEk : E.take k = E := List.take_of_length_le (by have := HM2.out; omega)
    rw [HEk] at HNs
    have HNf := Lib.hid (show NsAt 46 5 itc wr vs (cutP (fun x : It => ((sizeI [x] : Nat) : Int)) room l) from by unfold cutP; rw [← HE.out]; exact HNs.out)
    have HBf := Lib.hid ((HBw.out.trans (HB2.out.mono HBw.out.size)).trans (HBr.out.mono (Nat.le_trans HBw.out.size HB2.out.size)))
    clear hlt hk HEk
    gi_wp2
    refine ⟨by simp, .inl ⟨_, _, rfl, run_takeDeferred HKD.out, ?_⟩⟩
    have HOw := own_low (ownsRow_putObj HO.out (.deferred none) HKD.out rfl) (Nat.le_trans HBw.out.size HB2.out.size)
    first
     | refine ⟨_, results_tmp rfl _ _ _, A', k, c', vs, rfl, HOw, ?_, ?_⟩
     | refine ⟨_, results_tmp rfl _ _ _, A', k, c', rfl, vs, HOw, ?_, ?_⟩
    ·exact HNf.out.grown (grownBy_putObj' wr D (.deferred none)) (fun r hr c fz he => by
      injection hr with hr
      subst hr
      rw [HKD.out] at he
      cases he)
    ·exact HBf.out.trans (belowK_b (w := w) (Nat.le_refl _) wr D _ (.deferred none) (by have := HD4.out; omega) HKD.out rfl rfl)
end Go.Proofs.Ytgnpldlgdapehaa

