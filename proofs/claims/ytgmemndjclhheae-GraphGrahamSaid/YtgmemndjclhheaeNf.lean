/-
  OUR OWN TEXT. over: a job has ended; those that waited for it alone.
-/
import Derived.Test.YtgmemndjclhheaeNe
namespace Go.Proofs.Ytgmemndjclhheae
open Go.RowKit

/-- Nothing has changed but the blocks of F, and what is new. -/
structure But (F : Nat → Prop) (w w' : World) : Prop where
  os : w'.os = w.os
  tape : w'.tape = w.tape
  output : w'.output = w.output
  size : w.heap.size ≤ w'.heap.size
  block : ∀ k, k < w.heap.size → ¬ F k → w'.heap[k]? = w.heap[k]?

theorem But.refl (F : Nat → Prop) (w : World) : But F w w := ⟨rfl, rfl, rfl, Nat.le_refl _, fun _ _ _ => rfl⟩
theorem But.trans {F : Nat → Prop} {w w1 w2 : World} (h : But F w w1) (k : But F w1 w2) : But F w w2 :=
  ⟨k.os.trans h.os, k.tape.trans h.tape, k.output.trans h.output, Nat.le_trans h.size k.size, fun i hi hF => (k.block i (by have := h.size; omega) hF).trans (h.block i hi hF)⟩
theorem But.mono {F F' : Nat → Prop} {w w' : World} (h : But F w w') (hF : ∀ k, k < w.heap.size → F k → F' k) : But F' w w' := ⟨h.os, h.tape, h.output, h.size, fun k hk hn => h.block k hk fun hf => hn (hF k hk hf)⟩
theorem But.of_below {F : Nat → Prop} {w w' : World} (h : Below w.heap.size w w') : But F w w' := ⟨h.os, h.tape, h.output, h.size, fun k hk _ => h.block k hk⟩
theorem But.below {F : Nat → Prop} {w w' : World} (h : But F w w') {N : Nat} (hN : N ≤ w.heap.size) (hF : ∀ k, k < N → ¬ F k) : Below N w w' := ⟨h.os, h.tape, h.output, h.size, fun k hk => h.block k (by omega) (hF k hk)⟩
theorem But.set {F : Nat → Prop} (w : World) (g i : Nat) (v : Value) (hg : F g) : But F w (w.setCell ⟨g, i, none⟩ v) :=
  ⟨rfl, rfl, rfl, by simp, fun k _ hn => Below.heap_setCell w ⟨g, i, none⟩ v k (fun e => hn (e ▸ hg))⟩
theorem But.alloc {F : Nat → Prop} (w : World) (ob : Obj) : But F w (w.alloc ob) := But.of_below ((Below.refl _ _).alloc (Nat.le_refl _) ob)
theorem But.grown {F : Nat → Prop} {w w' : World} {row : Option Nat} (h : w.grownBy w' row) (hr : ∀ g, row = some g → g < w.heap.size → F g) : But F w w' :=
  ⟨h.os, h.tape, h.output, h.size, fun k hk hn => h.block k hk fun e => hn (hr k e.symm hk)⟩
theorem But.drew {F : Nat → Prop} (w : World) : But F w w.drew := ⟨rfl, rfl, rfl, Nat.le_refl _, fun _ _ _ => rfl⟩

theorem WaitsAt.but {w w' : World} {R F : Nat → Prop} {n q gl gb : Nat} {lf : Nat → Nat} {bv : Nat → Value} {bh : Nat → List Nat} (h : WaitsAt w R n q gl gb lf bv bh) (hb : But F w w') (hR : ∀ k, R k → k < w.heap.size) (hF : ∀ k, R k → ¬ F k) (hl : ¬ F gl) : WaitsAt w' R n q gl gb lf bv bh :=
  h.keep (fun k hk => hb.block k (hR k hk) (hF k hk)) (hb.block gl h.left.lt hl)

/-- What over answers. -/
def OverRes (w : World) (R : Nat → Prop) (n q gl gb : Nat) (lf : Nat → Nat) (bv : Nat → Value) (bh : Nat → List Nat) (j : Nat) (e : Ending) (w' : World) : Prop :=
  ∃ v nl, e = .returned v ∧ w'.ownsRow w.heap.size 3 1 v nl.length (ints nl) ∧ Ov lf (bh j) nl ∧ nl.length ≤ 40000 ∧ WaitsAt w' R n q gl gb (fun i => lf i - (bh j).count i) bv bh ∧ But (fun k => k = gl) w w'

set_option maxRecDepth 100000 in
set_option maxHeartbeats 1000000 in
theorem over_any (w : World) (R : Nat → Prop) (n q gl gb : Nat) (lf : Nat → Nat) (bv : Nat → Value) (bh : Nat → List Nat) (j : Nat) (h : WaitsAt w R n q gl gb lf bv bh) (hj : j < n) (hlt : ∀ i ∈ bh j, i < n) (hle : ∀ i, (bh j).count i ≤ lf i)
    (hR : ∀ k, R k → k < w.heap.size) (hlf : ∀ i, i < n → lf i ≤ 200) (hfew : (bh j).length ≤ 40000) :
    Calls Try.prog 71 #[.pointer (some ⟨q, 0, none⟩), .int .i64 j] w (OverRes w R n q gl gb lf bv bh j) := by
  obtain ⟨i0, hi0, hz0, hz1, hz2⟩ := info_parts Try.info_int
  obtain ⟨ab, ac, hbv, ha1, ha2, _⟩ := own_shape (h.own j hj)
  unfold maxLen at ha2
  have c0 := h.row.cell hj
  rw [hbv] at c0
  have c1 := cell_in h.box 1 _ rfl
  have hown := h.own j hj
  rw [hbv] at hown
  have hglw := h.left.lt
  have hRv := h.rv j hj
  rw [hbv] at hRv
  go_enter Try.func71, Try.ntmps71
  go_wp2_with fail
  clear c0 c1
  go_loopw [5, 16] (fun sv iv wr => ∃ (k : Nat) (nl : List Nat), k ≤ (bh j).length ∧ iv = .int .i64 k ∧ But (fun k => k = gl) w wr ∧ wr.ownsRow w.heap.size 3 1 sv nl.length (ints nl) ∧ nl.length ≤ k ∧ Ov lf ((bh j).take k) nl ∧ WaitsAt wr R n q gl gb (fun i => lf i - ((bh j).take k).count i) bv bh) (fun _ iv _ => (bh j).length - (intOf iv).toNat)
  case atStart => exact ⟨0, [], Nat.zero_le _, rfl, But.refl _ _, World.ownsRow_nil _ _ _ _, Nat.le_refl _, ov_start lf, by simpa using h⟩
  case round =>
    rename World => w3
    obtain ⟨k, nl, hk, rfl, hb3, hnow, hnl, hov, hW⟩ := hrel
    clear h
    have hs3 := hb3.size
    by_cases hkt : k < (bh j).length
    · have hown3 : w3.ownsRow 0 3 1 (.slice ab (bh j).length ac) (bh j).length (ints (bh j)) := own_keep hown fun g e => hb3.block g (hown.lt g e).2 fun e2 => hW.out (e2 ▸ hRv g e)
      obtain ⟨g, rfl, _, hg2, cg, _⟩ := own_int hown3 hkt
      obtain ⟨x, hx⟩ : ∃ x, (bh j)[k] = x := ⟨_, rfl⟩
      have hxn : x < n := hx ▸ hlt _ (List.getElem_mem hkt)
      have htk : (bh j).take (k + 1) = (bh j).take k ++ [x] := by rw [List.take_succ_eq_append_getElem hkt, hx]
      have hcx : ((bh j).take k).count x + 1 ≤ lf x := by
        have h1 : ((bh j).take (k + 1)).count x ≤ (bh j).count x := (List.take_sublist _ _).count_le _
        rw [htk, List.count_append] at h1
        have h2 := hle x
        simp at h1
        omega
      have hset : ∀ y, y < n → lf y - ((bh j).take (k + 1)).count y = if y = x then lf x - ((bh j).take k).count x - 1 else lf y - ((bh j).take k).count y := by
        intro y _
        rw [htk, List.count_append, List.count_singleton]
        by_cases e : y = x
        · subst e; simp; omega
        · have e2 : (x == y) = false := by simp; omega
          rw [e2, if_neg e]; simp
      have hW4 := hW.set (lf' := fun i => lf i - ((bh j).take (k + 1)).count i) x (lf x - ((bh j).take k).count x - 1) hset
      have hb4 : But (fun k => k = gl) w (w3.setCell ⟨gl, x, none⟩ (.int .i64 ((lf x - ((bh j).take k).count x - 1 : Nat) : Int))) := hb3.trans (But.set w3 gl x _ rfl)
      have q0 := cell_in hW.box 0 _ rfl
      have g0 := hW.left.cell hxn
      have g1 := hW.left.frozen x
      have g2 := hW.left.lt
      have hlx := hlf x hxn
      rw [hx] at cg
      obtain ⟨c, hc⟩ : ∃ c : Nat, lf x - ((bh j).take k).count x = c + 1 := ⟨lf x - ((bh j).take k).count x - 1, by omega⟩
      have hg0 : w3.cell? ⟨gl, x, none⟩ = some (.int .i64 ((c : Int) + 1)) := by rw [g0]; simp only [hc]; congr 2
      have hd0 : ((c : Int) == 0) = (c == 0) := by cases c <;> rfl
      rw [show lf x - ((bh j).take k).count x - 1 = c by omega] at hW4 hb4
      have hnow4 : (w3.setCell ⟨gl, x, none⟩ (.int .i64 (c : Int))).ownsRow w.heap.size 3 1 u5 nl.length (ints nl) := own_keep hnow fun g' e => Below.heap_setCell w3 ⟨gl, x, none⟩ _ g' (fun e2 => by
        have e2 : g' = gl := e2
        have h1 := (hnow.lt g' e).1
        have h2 : gl < w.heap.size := hglw
        omega)
      have g4 : (w3.setCell ⟨gl, x, none⟩ (.int .i64 (c : Int))).cell? ⟨gl, x, none⟩ = some (.int .i64 (c : Int)) := by
        have := (hW.left.set x (.int .i64 (c : Int))).cell hxn
        simpa using this
      have HOVY : Hid (c = 0 → Ov lf ((bh j).take (k + 1)) (nl ++ [x])) := fun h0 => by rw [htk]; exact ov_yes hov (by omega)
      have HOVN : Hid (c ≠ 0 → Ov lf ((bh j).take (k + 1)) nl) := fun h0 => by rw [htk]; exact ov_no hov (by omega) hcx
      have HC : Hid (lf x - ((bh j).take k).count x = c + 1) := hc
      have HX : Hid ((bh j)[k] = x) := hx
      clear hc hx htk hset g0 hov hcx hown hown3 hRv hlt hle
      have HWC : Hid (wrap64 (c : Int) = c) := wrap_id (by omega) (by have := HC.out; omega)
      go_upto_region 6 with fail
      rw [HWC.out]
      obtain ⟨W4, hW4e⟩ : ∃ X, w3.setCell ⟨gl, x, none⟩ (.int .i64 (c : Int)) = X := ⟨_, rfl⟩
      rw [hW4e] at hW4 hb4 hnow4 g4 ⊢
      clear hW4e hg0 g1 q0 g2 hW
      have q0 := cell_in hW4.box 0 _ rfl
      by_cases hc0 : c = 0
      · have HO := HOVY.out hc0
        have HO' : Hid (Ov lf ((bh j).take (k + 1)) (nl ++ [x])) := HO
        subst hc0
        have hs4 := hb4.size
        clear HO HOVY HOVN hd0
        go_wp2_with (at_builtin; refine wpList_append_mem rfl (.tmp 37) (.tmp 39) 56 rfl w.heap.size 3 i0 _ 1 8 Try.underlying56 hi0 hz0 hz1 hz2 rfl (by decide) _ _ _ rfl (hnow4.alloc _) (some ⟨W4.heap.size, 0, none⟩) 1 1 [.int .i64 x] rfl rfl nofun ?c2 ?c1 (by unfold maxLen; omega) (by omega) (by simp; omega) ?_)
        case c2 => exact src_one (by simp)
        case c1 => intro u hu; rw [List.mem_singleton] at hu; rw [hu]; rfl
        intro v' w7 hown' hg' _
        have hlow := fun g e => (hnow4.lt g e).1
        have hb7 : But (fun k => k = gl) w w7 := ⟨hg'.os.trans hb4.os, hg'.tape.trans hb4.tape, hg'.output.trans hb4.output, by have := hg'.size; simp at this; omega, fun i hi hne => by
          have h1 : i ≠ W4.heap.size := by omega
          rw [hg'.block i (by simp; omega) (fun e => by have := hlow i e.symm; omega), Below.heap_alloc W4 _ i (by omega)]
          exact hb4.block i hi hne⟩
        have hW7 : WaitsAt w7 R n q gl gb (fun i => lf i - ((bh j).take (k + 1)).count i) bv bh := hW4.keep (fun i hi => by
          have h1 := hR i hi
          rw [hg'.block i (by simp; omega) (fun e => by have := hlow i e.symm; omega), Below.heap_alloc W4 _ i (by omega)]) (by
          rw [hg'.block gl (by simp; omega) (fun e => by have := hlow gl e.symm; omega), Below.heap_alloc W4 _ gl (by omega)])
        clear hg' hlow hnow4 g4 q0
        go_wp2_with fail
        go_roundw
        case rel => exact ⟨k + 1, nl ++ [x], by omega, by go_num, hb7, by unfold ints at hown' ⊢; rw [List.length_append, List.map_append]; exact hown', by rw [List.length_append]; simp; omega, HO'.out, hW7⟩
        case measure => simp [intOf]; omega
      · have HO : Hid (Ov lf ((bh j).take (k + 1)) nl) := HOVN.out hc0
        have hd1 : ((c : Int) == 0) = false := by simp; omega
        clear HOVY HOVN hd0 hc0
        go_wp2_with fail
        go_roundw
        case rel => exact ⟨k + 1, nl, by omega, by go_num, hb4, hnow4, by omega, HO.out, hW4⟩
        case measure => simp [intOf]; omega
    · obtain rfl : k = (bh j).length := by omega
      rw [List.take_of_length_le (Nat.le_refl _)] at hov hW
      clear hown hRv
      go_wp2_with fail
      go_ret
      exact ⟨_, nl, rfl, hnow, hov, by omega, hW, hb3⟩

#print axioms over_any
end Go.Proofs.Ytgmemndjclhheae
