/-
  OUR OWN TEXT. newPlan: five parts that are made in whatever order.
-/
import Derived.Test.YtgmemndjclhheaeNq
namespace Go.Proofs.Ytgmemndjclhheae
open Go.RowKit

/-- Parts that have been made, each in an interval of memory of its own. -/
structure Iv (H : Nat → Prop) (L : Nat → Bool) (N : Nat) (s t : Nat → Nat) (sz : Nat) : Prop where
  le : N ≤ sz
  iv : ∀ i, H i → L i = true → N ≤ s i ∧ s i ≤ t i ∧ t i ≤ sz
  dj : ∀ i j, H i → H j → i ≠ j → L i = true → L j = true → t i ≤ s j ∨ t j ≤ s i

theorem Iv.add {H : Nat → Prop} {L : Nat → Bool} {N : Nat} {s t : Nat → Nat} {sz sz' : Nat} (h : Iv H L N s t sz) (i : Nat) (hs : sz ≤ sz') : Iv H (fun k => if k = i then true else L k) N (Gr.put s i sz) (Gr.put t i sz') sz' where
  le := Nat.le_trans h.le hs
  iv j hj hL := by
    by_cases e : j = i
    · subst e
      rw [Gr.put_at, Gr.put_at]
      exact ⟨h.le, hs, Nat.le_refl _⟩
    · rw [Gr.put_ne _ _ e, Gr.put_ne _ _ e]
      have hL' : L j = true := by rw [if_neg e] at hL; exact hL
      have := h.iv j hj hL'
      omega
  dj j k hj hk hne hLj hLk := by
    by_cases e : j = i
    · subst e
      have e2 : k ≠ j := fun e => hne e.symm
      rw [if_neg e2] at hLk
      rw [Gr.put_at, Gr.put_at, Gr.put_ne _ _ e2, Gr.put_ne _ _ e2]
      exact .inr (h.iv k hk hLk).2.2
    · rw [if_neg e] at hLj
      rw [Gr.put_ne _ _ e, Gr.put_ne _ _ e]
      by_cases e2 : k = i
      · subst e2
        rw [Gr.put_at, Gr.put_at]
        exact .inl (h.iv j hj hLj).2.2
      · rw [if_neg e2] at hLk
        rw [Gr.put_ne _ _ e2, Gr.put_ne _ _ e2]
        exact h.dj j k hj hk hne hLj hLk

theorem Iv.same {H : Nat → Prop} {L : Nat → Bool} {N : Nat} {s t : Nat → Nat} {sz sz' : Nat} (h : Iv H L N s t sz) {i : Nat} (hi : ¬ H i) (hs : sz ≤ sz') : Iv H (fun k => if k = i then true else L k) N s t sz' where
  le := Nat.le_trans h.le hs
  iv j hj hL := by
    have e : j ≠ i := fun e => hi (e ▸ hj)
    rw [if_neg e] at hL
    have := h.iv j hj hL
    omega
  dj j k hj hk hne hLj hLk := by
    have e : j ≠ i := fun e => hi (e ▸ hj)
    have e2 : k ≠ i := fun e => hi (e ▸ hk)
    rw [if_neg e] at hLj
    rw [if_neg e2] at hLk
    exact h.dj j k hj hk hne hLj hLk

/-- The waits. -/
structure PcW (J : Jb) (x : Value) (s t : Nat) (w : World) (q gl gb : Nat) (bv : Nat → Value) (bh : Nat → List Nat) : Prop where
  val : x = .pointer (some ⟨q, 0, none⟩)
  at_ : WaitsAt w (fun k => s ≤ k ∧ k < t ∧ k ≠ gl) J.n q gl gb (fun i => (J.aft i).length) bv bh
  lo : s ≤ gl
  hi : gl < t
  beh : Beh J bh

/-- The open jobs. -/
structure PcO (J : Jb) (x : Value) (s t : Nat) (w : World) (oa : Option Addr) (oc : Nat) : Prop where
  val : x = .slice oa (freeTo J J.n).length oc
  own : w.ownsRow s 3 1 (.slice oa (freeTo J J.n).length oc) (freeTo J J.n).length (ints (freeTo J J.n))
  hi : ∀ g, (Value.slice oa (freeTo J J.n).length oc).ownBlock = some g → g < t

/-- A row. -/
structure PcR (x : Value) (s t : Nat) (w : World) (g n c : Nat) (ty : TypeId) (f : Nat → Value) : Prop where
  val : x = .slice (some ⟨g, 0, none⟩) n n
  row : w.rowIs g ty c f
  lo : s ≤ g
  hi : g < t

theorem PcW.keep {J : Jb} {x : Value} {s t : Nat} {w w' : World} {q gl gb : Nat} {bv : Nat → Value} {bh : Nat → List Nat} (h : PcW J x s t w q gl gb bv bh) (ht : t ≤ w.heap.size) (hb : Below w.heap.size w w') : PcW J x s t w' q gl gb bv bh :=
  ⟨h.val, h.at_.keep (fun k hk => hb.block k (by have := hk.2.1; omega)) (hb.block gl (by have := h.hi; omega)), h.lo, h.hi, h.beh⟩
theorem PcO.keep {J : Jb} {x : Value} {s t : Nat} {w w' : World} {oa : Option Addr} {oc : Nat} (h : PcO J x s t w oa oc) (hb : Below w.heap.size w w') : PcO J x s t w' oa oc :=
  ⟨h.val, own_keep h.own fun g e => hb.block g (h.own.lt g e).2, h.hi⟩
theorem PcR.keep {x : Value} {s t : Nat} {w w' : World} {g n c : Nat} {ty : TypeId} {f : Nat → Value} (h : PcR x s t w g n c ty f) (hb : Below w.heap.size w w') : PcR x s t w' g n c ty f :=
  ⟨h.val, h.row.of_block (hb.block g h.row.lt), h.lo, h.hi⟩

/-- Which operations make parts. -/
def heavy (i : Nat) : Prop := i = 2 ∨ i = 4 ∨ i = 7 ∨ i = 10

/-- What newPlan's region has made so far. -/
structure NP (J : Jb) (m : Nat) (w w' : World) (v : Value) (L : Nat → Bool) (x4 x5 x6 x7 x8 x9 x10 x11 x12 x13 x14 x15 x16 x17 : Value) (s t : Nat → Nat) (q gl gb gs gx gd p : Nat) (bv : Nat → Value) (bh : Nat → List Nat) (oa : Option Addr) (oc : Nat) : Prop where
  low : Below w.heap.size w w'
  iv : Iv heavy L w.heap.size s t w'.heap.size
  p0 : L 0 = true → x5 = v
  p1 : L 1 = true → x6 = v
  p2 : L 2 = true → PcW J x7 (s 2) (t 2) w' q gl gb bv bh
  p3 : L 3 = true → x8 = v
  p4 : L 4 = true → PcO J x9 (s 4) (t 4) w' oa oc
  p5 : L 5 = true → x10 = v
  p6 : L 6 = true → x11 = .int .i64 J.n
  p7 : L 7 = true → PcR x12 (s 7) (t 7) w' gs J.n (J.n * 2) 53 (slotF (fun _ => 0) (fun _ => 0))
  p8 : L 8 = true → x13 = .slice (some ⟨gx, 0, none⟩) 1 1 ∧ w'.cell? ⟨gx, 0, none⟩ = some (.int .i64 (-1))
  p9 : L 9 = true → x14 = .int .i64 m
  p10 : L 10 = true → PcR x15 (s 10) (t 10) w' gd m m 3 (fun _ => .int .i64 (-1))
  p11 : L 11 = true → x16 = .agg #[v, .pointer (some ⟨q, 0, none⟩), .slice oa (freeTo J J.n).length oc, .slice (some ⟨gs, 0, none⟩) J.n J.n, .slice (some ⟨gd, 0, none⟩) m m]
  p12 : L 12 = true → x17 = .pointer (some ⟨p, 0, none⟩) ∧ w'.heap[p]? = some (.cells #[v, .pointer (some ⟨q, 0, none⟩), .slice oa (freeTo J J.n).length oc, .slice (some ⟨gs, 0, none⟩) J.n J.n, .slice (some ⟨gd, 0, none⟩) m m] 93) ∧ (∀ i, heavy i → t i ≤ p) ∧ w.heap.size ≤ p
  p13 : L 13 = true → x4 = x17

/-- A light operation has been done: what is not its own stays. -/
theorem NP.world {J : Jb} {m : Nat} {w w1 w2 : World} {v : Value} {L : Nat → Bool} {x4 x5 x6 x7 x8 x9 x10 x11 x12 x13 x14 x15 x16 x17 : Value} {s t : Nat → Nat} {q gl gb gs gx gd p : Nat} {bv : Nat → Value} {bh : Nat → List Nat} {oa : Option Addr} {oc : Nat}
    (F : NP J m w w1 v L x4 x5 x6 x7 x8 x9 x10 x11 x12 x13 x14 x15 x16 x17 s t q gl gb gs gx gd p bv bh oa oc) (hb : Below w1.heap.size w1 w2) : Below w.heap.size w w2 ∧ (L 2 = true → PcW J x7 (s 2) (t 2) w2 q gl gb bv bh) ∧ (L 4 = true → PcO J x9 (s 4) (t 4) w2 oa oc) ∧ (L 7 = true → PcR x12 (s 7) (t 7) w2 gs J.n (J.n * 2) 53 (slotF (fun _ => 0) (fun _ => 0))) ∧
      (L 8 = true → x13 = .slice (some ⟨gx, 0, none⟩) 1 1 ∧ w2.cell? ⟨gx, 0, none⟩ = some (.int .i64 (-1))) ∧ (L 10 = true → PcR x15 (s 10) (t 10) w2 gd m m 3 (fun _ => .int .i64 (-1))) :=
  ⟨F.low.trans (hb.mono F.low.size), fun h => (F.p2 h).keep (F.iv.iv 2 (.inl rfl) h).2.2 hb, fun h => (F.p4 h).keep hb, fun h => (F.p7 h).keep hb, fun h => ⟨(F.p8 h).1, by
    rw [World.cell?_of_block (a := ⟨gx, 0, none⟩) (hb.block gx (World.block_lt_of_cell? w1 _ (F.p8 h).2))]
    exact (F.p8 h).2⟩, fun h => (F.p10 h).keep hb⟩

theorem slots_made (W : World) (n : Nat) : (W.alloc (.cells (madeCells #[.int .i64 0, .int .i64 0] (n * 2)) 53)).rowIs W.heap.size 53 (n * 2) (slotF (fun _ => 0) (fun _ => 0)) := by
  have := World.rowIs_alloc W (madeCells #[.int .i64 0, .int .i64 0] (n * 2)) 53 (slotF (fun _ => 0) (fun _ => 0)) (by
    intro i hi
    rw [size_madeCells] at hi
    have e : slotF (fun _ => 0) (fun _ => 0) i = .int .i64 0 := by unfold slotF; split <;> rfl
    rw [e]
    rcases Nat.mod_two_eq_zero_or_one i with h | h <;> simp [madeCells, hi, h])
  rw [size_madeCells] at this
  exact this

/-- What newPlan answers. -/
def NewPlanRes (J : Jb) (m : Nat) (w : World) (e : Ending) (w' : World) : Prop := ∃ (P : PlanB) (ov : Value), e = .returned (.pointer (some ⟨P.p, 0, none⟩)) ∧ PlanAt J m P w' ov (freeTo J J.n) (fun i => (J.aft i).length) (fun _ => 0) (fun _ => 0) (fun _ => -1) ∧ Beh J P.bh ∧ P.base = w.heap.size ∧ (P.base ≤ P.p ∧ P.base ≤ P.gl ∧ P.base ≤ P.gd ∧ P.base ≤ P.gs) ∧ Below w.heap.size w w'

set_option maxRecDepth 100000 in
set_option maxHeartbeats 2000000 in
theorem newPlan_any (J : Jb) (w : World) (B : Nat) (v : Value) (m : Nat) (hin : J.In w B v) (hB : B ≤ w.heap.size) (hg : J.Good) (hnb : ¬ J.Big) (hn : J.n ≤ 200) (hsm : J.Small) (hm1 : 1 ≤ m) (hm2 : m ≤ 16) :
    Calls Try.prog 45 #[v, .int .i64 (m : Int)] w (NewPlanRes J m w) := by
  have hin0 := hin
  have KW := fun W (hb : Below w.heap.size w W) => newWaits_any J W B v (hin.keep fun k hk => hb.block k (by omega)) (by have := hb.size; omega) hg hnb hn
  have KF := fun W (hb : Below w.heap.size w W) => free_any J W B v (hin.keep fun k hk => hb.block k (by omega)) (by have := hb.size; omega) hsm
  obtain ⟨a, cap, rfl, hl, hc, hq⟩ := hin
  clear hq
  obtain ⟨i0, hi, hz0, hz1, hz2⟩ := info_parts Try.infoSlot
  have hmkS : ∀ w : World, (Instr.makeSlice 46 (.int .i64 (J.n : Int)) (.int .i64 (J.n : Int))).run Try.prog w = .ok (.slice (some ⟨w.heap.size, 0, none⟩) J.n J.n) (w.alloc (.cells (madeCells #[.int .i64 0, .int .i64 0] (J.n * 2)) 53)) := by
    intro w
    have := run_make (P := Try.prog) w 46 53 i0 _ Try.underlying46 hi hz0 .i64 .i64 J.n J.n (by omega) (Int.le_refl _) (by rw [hz2]; omega) (by omega)
    rw [hz1] at this
    simpa [Value.cells] using this
  go_enter Try.func45, Try.ntmps45
  go_upto_region 1 with fail
  refine wp_region_inv (fun L a' w' => ∃ (x4 x5 x6 x7 x8 x9 x10 x11 x12 x13 x14 x15 x16 x17 : Value) (s t : Nat → Nat) (q gl gb gs gx gd p : Nat) (bv : Nat → Value) (bh : Nat → List Nat) (oa : Option Addr) (oc : Nat), a' = ⟨#[.slice a J.n cap, .int .i64 (m : Int), undef, undef, x4, x5, x6, x7, x8, x9, x10, x11, x12, x13, x14, x15, x16, x17], []⟩ ∧
    NP J m w w' (.slice a J.n cap) L x4 x5 x6 x7 x8 x9 x10 x11 x12 x13 x14 x15 x16 x17 s t q gl gb gs gx gd p bv bh oa oc) (by kernel_rfl) (by kernel_rfl) ?_ ?_ ?_
  · refine ⟨_, _, _, _, _, _, _, _, _, _, _, _, _, _, fun _ => 0, fun _ => 0, 0, 0, 0, 0, 0, 0, 0, fun _ => undef, fun _ => [], none, 0, rfl, ⟨⟨rfl, rfl, rfl, Nat.le_refl _, fun _ _ => rfl⟩, ⟨Nat.le_refl _, nofun, nofun⟩, nofun, nofun, nofun, nofun, nofun, nofun, nofun, nofun, nofun, nofun, nofun, nofun, nofun, nofun⟩⟩
  · rintro L _ W ⟨x4, x5, x6, x7, x8, x9, x10, x11, x12, x13, x14, x15, x16, x17, s, t, q, gl, gb, gs, gx, gd, p, bv, bh, oa, oc, rfl, F⟩ hcl i o ho hL hpre K' hK
    have hi14 : i < 14 := (Array.getElem?_eq_some_iff.1 ho).1
    have hsz := F.low.size
    obtain rfl | rfl | rfl | rfl | rfl | rfl | rfl | rfl | rfl | rfl | rfl | rfl | rfl | rfl : i = 0 ∨ i = 1 ∨ i = 2 ∨ i = 3 ∨ i = 4 ∨ i = 5 ∨ i = 6 ∨ i = 7 ∨ i = 8 ∨ i = 9 ∨ i = 10 ∨ i = 11 ∨ i = 12 ∨ i = 13 := by omega
    · cases ho
      clear hpre
      have hv := F.iv.same (i := 0) (by unfold heavy; omega) (Nat.le_refl _)
      go_simp
      exact hK _ _ ⟨_, _, _, _, _, _, _, _, _, _, _, _, _, _, s, t, q, gl, gb, gs, gx, gd, p, bv, bh, oa, oc, rfl, ⟨F.low, hv, fun _ => rfl, F.p1, F.p2, F.p3, F.p4, F.p5, F.p6, F.p7, F.p8, F.p9, F.p10, F.p11, F.p12, F.p13⟩⟩
    · cases ho
      clear hpre
      have hv := F.iv.same (i := 1) (by unfold heavy; omega) (Nat.le_refl _)
      go_simp
      exact hK _ _ ⟨_, _, _, _, _, _, _, _, _, _, _, _, _, _, s, t, q, gl, gb, gs, gx, gd, p, bv, bh, oa, oc, rfl, ⟨F.low, hv, F.p0, fun _ => rfl, F.p2, F.p3, F.p4, F.p5, F.p6, F.p7, F.p8, F.p9, F.p10, F.p11, F.p12, F.p13⟩⟩
    · cases ho
      obtain rfl := F.p1 (hpre 1 (by kernel_rfl))
      clear hpre
      have KW1 := KW W F.low
      go_simp
      refine KW1.mono ?_
      rintro e W1 ⟨q1, gl1, gb1, bv1, bh1, rfl, hW1, hlo1, hhi1, hbh1, hb1⟩
      obtain ⟨n0, n2, n4, n7, n8, n10⟩ := F.world hb1
      have hv := F.iv.add 2 hb1.size
      refine hK _ _ ⟨_, _, _, _, _, _, _, _, _, _, _, _, _, _, Gr.put s 2 W.heap.size, Gr.put t 2 W1.heap.size, q1, gl1, gb1, gs, gx, gd, p, bv1, bh1, oa, oc, rfl, ⟨n0, hv, F.p0, F.p1, fun _ => ⟨rfl, hW1, hlo1, hhi1, hbh1⟩, F.p3, n4, F.p5, F.p6, n7, n8, F.p9, n10, fun h => ?_, fun h => ?_, F.p13⟩⟩
      · exact absurd ((hcl 11 2 (by kernel_rfl) h).symm.trans hL) nofun
      · exact absurd ((hcl 11 2 (by kernel_rfl) (hcl 12 11 (by kernel_rfl) h)).symm.trans hL) nofun
    · cases ho
      clear hpre
      have hv := F.iv.same (i := 3) (by unfold heavy; omega) (Nat.le_refl _)
      go_simp
      exact hK _ _ ⟨_, _, _, _, _, _, _, _, _, _, _, _, _, _, s, t, q, gl, gb, gs, gx, gd, p, bv, bh, oa, oc, rfl, ⟨F.low, hv, F.p0, F.p1, F.p2, fun _ => rfl, F.p4, F.p5, F.p6, F.p7, F.p8, F.p9, F.p10, F.p11, F.p12, F.p13⟩⟩
    · cases ho
      obtain rfl := F.p3 (hpre 3 (by kernel_rfl))
      clear hpre
      have KF1 := KF W F.low
      go_simp
      refine KF1.mono ?_
      rintro e W1 ⟨ov1, rfl, hown1, hb1⟩
      obtain ⟨oa1, oc1, rfl, _, _, _⟩ := own_shape hown1
      obtain ⟨n0, n2, n4, n7, n8, n10⟩ := F.world hb1
      have hv := F.iv.add 4 hb1.size
      refine hK _ _ ⟨_, _, _, _, _, _, _, _, _, _, _, _, _, _, Gr.put s 4 W.heap.size, Gr.put t 4 W1.heap.size, q, gl, gb, gs, gx, gd, p, bv, bh, oa1, oc1, rfl, ⟨n0, hv, F.p0, F.p1, n2, F.p3, fun _ => ⟨rfl, hown1, fun g e => (hown1.lt g e).2⟩, F.p5, F.p6, n7, n8, F.p9, n10, fun h => ?_, fun h => ?_, F.p13⟩⟩
      · exact absurd ((hcl 11 4 (by kernel_rfl) h).symm.trans hL) nofun
      · exact absurd ((hcl 11 4 (by kernel_rfl) (hcl 12 11 (by kernel_rfl) h)).symm.trans hL) nofun
    · cases ho
      clear hpre
      have hv := F.iv.same (i := 5) (by unfold heavy; omega) (Nat.le_refl _)
      go_simp
      exact hK _ _ ⟨_, _, _, _, _, _, _, _, _, _, _, _, _, _, s, t, q, gl, gb, gs, gx, gd, p, bv, bh, oa, oc, rfl, ⟨F.low, hv, F.p0, F.p1, F.p2, F.p3, F.p4, fun _ => rfl, F.p6, F.p7, F.p8, F.p9, F.p10, F.p11, F.p12, F.p13⟩⟩
    · cases ho
      obtain rfl := F.p5 (hpre 5 (by kernel_rfl))
      clear hpre
      have hv := F.iv.same (i := 6) (by unfold heavy; omega) (Nat.le_refl _)
      go_simp
      exact hK _ _ ⟨_, _, _, _, _, _, _, _, _, _, _, _, _, _, s, t, q, gl, gb, gs, gx, gd, p, bv, bh, oa, oc, rfl, ⟨F.low, hv, F.p0, F.p1, F.p2, F.p3, F.p4, F.p5, fun _ => rfl, F.p7, F.p8, F.p9, F.p10, F.p11, F.p12, F.p13⟩⟩
    · cases ho
      obtain rfl := F.p6 (hpre 6 (by kernel_rfl))
      clear hpre
      have hb1 : Below W.heap.size W (W.alloc (.cells (madeCells #[.int .i64 0, .int .i64 0] (J.n * 2)) 53)) := (Below.refl _ _).alloc (Nat.le_refl _) _
      obtain ⟨n0, n2, n4, n7, n8, n10⟩ := F.world hb1
      have hv := F.iv.add 7 hb1.size
      have hrow := slots_made W J.n
      go_simp
      refine hK _ _ ⟨_, _, _, _, _, _, _, _, _, _, _, _, _, _, Gr.put s 7 W.heap.size, Gr.put t 7 (W.alloc (.cells (madeCells #[.int .i64 0, .int .i64 0] (J.n * 2)) 53)).heap.size, q, gl, gb, W.heap.size, gx, gd, p, bv, bh, oa, oc, rfl, ⟨n0, hv, F.p0, F.p1, n2, F.p3, n4, F.p5, F.p6, fun _ => ⟨rfl, hrow, Nat.le_refl _, hrow.lt⟩, n8, F.p9, n10, fun h => ?_, fun h => ?_, F.p13⟩⟩
      · exact absurd ((hcl 11 7 (by kernel_rfl) h).symm.trans hL) nofun
      · exact absurd ((hcl 11 7 (by kernel_rfl) (hcl 12 11 (by kernel_rfl) h)).symm.trans hL) nofun
    · cases ho
      clear hpre
      have hb1 : Below W.heap.size W (W.alloc (.cells #[.int .i64 (-1)] 3)) := (Below.refl _ _).alloc (Nat.le_refl _) _
      obtain ⟨n0, n2, n4, n7, n8, n10⟩ := F.world hb1
      have hv := F.iv.same (i := 8) (by unfold heavy; omega) hb1.size
      have hcell : (W.alloc (.cells #[.int .i64 (-1)] 3)).cell? ⟨W.heap.size, 0, none⟩ = some (.int .i64 (-1)) := cell_in (heap_alloc_new W _) 0 _ rfl
      go_simp
      refine hK _ _ ⟨_, _, _, _, _, _, _, _, _, _, _, _, _, _, s, t, q, gl, gb, gs, W.heap.size, gd, p, bv, bh, oa, oc, rfl, ⟨n0, hv, F.p0, F.p1, n2, F.p3, n4, F.p5, F.p6, n7, fun _ => ⟨rfl, hcell⟩, F.p9, n10, F.p11, fun h => ?_, F.p13⟩⟩
      exact absurd ((hcl 10 8 (by kernel_rfl) (hcl 11 10 (by kernel_rfl) (hcl 12 11 (by kernel_rfl) h))).symm.trans hL) nofun
    · cases ho
      clear hpre
      have hv := F.iv.same (i := 9) (by unfold heavy; omega) (Nat.le_refl _)
      go_simp
      exact hK _ _ ⟨_, _, _, _, _, _, _, _, _, _, _, _, _, _, s, t, q, gl, gb, gs, gx, gd, p, bv, bh, oa, oc, rfl, ⟨F.low, hv, F.p0, F.p1, F.p2, F.p3, F.p4, F.p5, F.p6, F.p7, F.p8, fun _ => rfl, F.p10, F.p11, F.p12, F.p13⟩⟩
    · cases ho
      obtain ⟨rfl, hcell⟩ := F.p8 (hpre 8 (by kernel_rfl))
      obtain rfl := F.p9 (hpre 9 (by kernel_rfl))
      clear hpre
      have KR := repeat_any W gx m hcell hm1 hm2
      go_simp
      refine KR.mono ?_
      rintro e W1 ⟨gd1, rfl, hlo1, hrow1, hb1⟩
      obtain ⟨n0, n2, n4, n7, n8, n10⟩ := F.world hb1
      have hv := F.iv.add 10 hb1.size
      refine hK _ _ ⟨_, _, _, _, _, _, _, _, _, _, _, _, _, _, Gr.put s 10 W.heap.size, Gr.put t 10 W1.heap.size, q, gl, gb, gs, gx, gd1, p, bv, bh, oa, oc, rfl, ⟨n0, hv, F.p0, F.p1, n2, F.p3, n4, F.p5, F.p6, n7, n8, F.p9, fun _ => ⟨rfl, hrow1, hlo1, hrow1.lt⟩, fun h => ?_, fun h => ?_, F.p13⟩⟩
      · exact absurd ((hcl 11 10 (by kernel_rfl) h).symm.trans hL) nofun
      · exact absurd ((hcl 11 10 (by kernel_rfl) (hcl 12 11 (by kernel_rfl) h)).symm.trans hL) nofun
    · cases ho
      obtain rfl := F.p0 (hpre 0 (by kernel_rfl))
      obtain rfl := (F.p2 (hpre 2 (by kernel_rfl))).val
      obtain rfl := (F.p4 (hpre 4 (by kernel_rfl))).val
      obtain rfl := (F.p7 (hpre 7 (by kernel_rfl))).val
      obtain rfl := (F.p10 (hpre 10 (by kernel_rfl))).val
      clear hpre
      have hv := F.iv.same (i := 11) (by unfold heavy; omega) (Nat.le_refl _)
      go_simp
      exact hK _ _ ⟨_, _, _, _, _, _, _, _, _, _, _, _, _, _, s, t, q, gl, gb, gs, gx, gd, p, bv, bh, oa, oc, rfl, ⟨F.low, hv, F.p0, F.p1, F.p2, F.p3, F.p4, F.p5, F.p6, F.p7, F.p8, F.p9, F.p10, fun _ => rfl, F.p12, F.p13⟩⟩
    · cases ho
      have h11 := hpre 11 (by kernel_rfl)
      obtain rfl := F.p11 h11
      clear hpre
      have hb1 : ∀ ob, Below W.heap.size W (W.alloc ob) := fun ob => (Below.refl _ _).alloc (Nat.le_refl _) ob
      have hv := fun ob => F.iv.same (i := 12) (by unfold heavy; omega) (hb1 ob).size
      have hw := fun ob => F.world (hb1 ob)
      have hts : ∀ i, heavy i → t i ≤ W.heap.size := fun i hi => (F.iv.iv i hi (by
        rcases hi with rfl | rfl | rfl | rfl
        · exact hcl 11 2 (by kernel_rfl) h11
        · exact hcl 11 4 (by kernel_rfl) h11
        · exact hcl 11 7 (by kernel_rfl) h11
        · exact hcl 11 10 (by kernel_rfl) h11)).2.2
      go_simp
      refine hK _ _ ⟨_, _, _, _, _, _, _, _, _, _, _, _, _, _, s, t, q, gl, gb, gs, gx, gd, W.heap.size, bv, bh, oa, oc, rfl, ⟨(hw _).1, hv _, F.p0, F.p1, (hw _).2.1, F.p3, (hw _).2.2.1, F.p5, F.p6, (hw _).2.2.2.1, (hw _).2.2.2.2.1, F.p9, (hw _).2.2.2.2.2, F.p11, fun _ => ⟨rfl, heap_alloc_new W _, hts, hsz⟩, fun h => ?_⟩⟩
      exact absurd ((hcl 13 12 (by kernel_rfl) h).symm.trans hL) nofun
    · cases ho
      clear hpre
      have hv := F.iv.same (i := 13) (by unfold heavy; omega) (Nat.le_refl _)
      go_simp
      exact hK _ _ ⟨_, _, _, _, _, _, _, _, _, _, _, _, _, _, s, t, q, gl, gb, gs, gx, gd, p, bv, bh, oa, oc, rfl, ⟨F.low, hv, F.p0, F.p1, F.p2, F.p3, F.p4, F.p5, F.p6, F.p7, F.p8, F.p9, F.p10, F.p11, F.p12, fun _ => rfl⟩⟩
  · rintro L _ W ⟨x4, x5, x6, x7, x8, x9, x10, x11, x12, x13, x14, x15, x16, x17, s, t, q, gl, gb, gs, gx, gd, p, bv, bh, oa, oc, rfl, F⟩ hall
    have h2 := hall 2 (by decide)
    have h4 := hall 4 (by decide)
    have h7 := hall 7 (by decide)
    have h10 := hall 10 (by decide)
    have a2 := F.p2 h2
    have a4 := F.p4 h4
    have a7 := F.p7 h7
    have a10 := F.p10 h10
    obtain ⟨e17, hbox, htp, hps⟩ := F.p12 (hall 12 (by decide))
    obtain rfl := F.p13 (hall 13 (by decide))
    have i2 := F.iv.iv 2 (.inl rfl) h2
    have i4 := F.iv.iv 4 (.inr (.inl rfl)) h4
    have i7 := F.iv.iv 7 (.inr (.inr (.inl rfl))) h7
    have i10 := F.iv.iv 10 (.inr (.inr (.inr rfl))) h10
    have d24 := F.iv.dj 2 4 (.inl rfl) (.inr (.inl rfl)) (by decide) h2 h4
    have d27 := F.iv.dj 2 7 (.inl rfl) (.inr (.inr (.inl rfl))) (by decide) h2 h7
    have d2a := F.iv.dj 2 10 (.inl rfl) (.inr (.inr (.inr rfl))) (by decide) h2 h10
    have d47 := F.iv.dj 4 7 (.inr (.inl rfl)) (.inr (.inr (.inl rfl))) (by decide) h4 h7
    have d4a := F.iv.dj 4 10 (.inr (.inl rfl)) (.inr (.inr (.inr rfl))) (by decide) h4 h10
    have d7a := F.iv.dj 7 10 (.inr (.inr (.inl rfl))) (.inr (.inr (.inr rfl))) (by decide) h7 h10
    have t2 := htp 2 (.inl rfl)
    have t4 := htp 4 (.inr (.inl rfl))
    have t7 := htp 7 (.inr (.inr (.inl rfl)))
    have t10 := htp 10 (.inr (.inr (.inr rfl)))
    have hplt : p < W.heap.size := (Array.getElem?_eq_some_iff.1 hbox).1
    have hlow := F.low
    have hsz := hlow.size
    have b2 := a2.lo
    have c2 := a2.hi
    have b7 := a7.lo
    have c7 := a7.hi
    have b10 := a10.lo
    have c10 := a10.hi
    have hjobs : J.At W (fun k => k < B ∨ (s 2 ≤ k ∧ k < t 2 ∧ k ≠ gl)) a cap := by
      refine ⟨hl, hc, fun i hi => ?_⟩
      obtain ⟨b, off, aa, acap, e, hbB, f0, f1, _⟩ := hin0.cells hB hlow hi
      exact ⟨b, off, e, .inl hbB, f0, f1⟩
    have r0 : ∀ k, (k < B ∨ (s 2 ≤ k ∧ k < t 2 ∧ k ≠ gl)) → k < W.heap.size := fun k hk => by
      rcases hk with h | ⟨_, h, _⟩
      · omega
      · omega
    have r1 : ¬ (gl < B ∨ (s 2 ≤ gl ∧ gl < t 2 ∧ gl ≠ gl)) := by
      rintro (h | ⟨_, _, h⟩)
      · omega
      · exact h rfl
    have rr : ∀ g, w.heap.size ≤ g → (t 2 ≤ g ∨ g < s 2) → ¬ (g < B ∨ (s 2 ≤ g ∧ g < t 2 ∧ g ≠ gl)) := fun g h1 h2 h => by
      rcases h with h | ⟨h3, h4, _⟩
      · omega
      · omega
    have HP : Hid (NewPlanRes J m w (.returned (.pointer (some ⟨p, 0, none⟩))) W) := by
      refine ⟨⟨p, q, gl, gb, gs, gd, w.heap.size, fun k => k < B ∨ (s 2 ≤ k ∧ k < t 2 ∧ k ≠ gl), a, cap, bv, bh⟩, .slice oa (freeTo J J.n).length oc, rfl, ⟨hbox, hjobs, a2.at_.mono (fun k hk => .inr hk) r1, own_weak a4.own (show w.heap.size ≤ s 4 by omega), a7.row, a10.row, r0, rr p (by omega) (by omega), rr gs (by omega) (by omega), rr gd (by omega) (by omega), fun g e => ?_, ⟨by show p ≠ gl; omega, by show p ≠ gs; omega, by show p ≠ gd; omega, by show gl ≠ gs; omega, by show gl ≠ gd; omega, by show gs ≠ gd; omega⟩, by show w.heap.size ≤ _; omega⟩, a2.beh, rfl, ⟨by show w.heap.size ≤ p; omega, by show w.heap.size ≤ gl; omega, by show w.heap.size ≤ gd; omega, by show w.heap.size ≤ gs; omega⟩, hlow⟩
      have g1 := (a4.own.lt g e).1
      have g2 := a4.hi g e
      exact ⟨rr g (by omega) (by omega), by show g ≠ p; omega, by show g ≠ gl; omega, by show g ≠ gs; omega, by show g ≠ gd; omega⟩
    subst e17
    clear F a2 a4 a7 a10 hbox hjobs hall
    go_wp2_with fail
    go_ret
    exact HP.out

#print axioms newPlan_any
end Go.Proofs.Ytgmemndjclhheae
