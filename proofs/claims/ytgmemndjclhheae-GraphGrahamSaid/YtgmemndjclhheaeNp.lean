/-
  OUR OWN TEXT. begin.
-/
import Derived.Test.YtgmemndjclhheaeNo
namespace Go.Proofs.Ytgmemndjclhheae
open Go.RowKit

/-- How many jobs are open. -/
def openLen (p : Nat) (w : World) : Nat :=
  match w.cell? ⟨p, 2, none⟩ with
  | some (.slice _ n _) => n
  | _ => 0

section
variable {J : Jb} {m : Nat} {P : PlanB} {w : World} {ov : Value} {ol : List Nat} {lf Bg Wk : Nat → Nat} {dg : Nat → Int}

theorem PlanAt.openLen (h : PlanAt J m P w ov ol lf Bg Wk dg) : openLen P.p w = ol.length := by
  obtain ⟨oa, oc, rfl, _, _, _⟩ := own_shape h.own
  unfold Go.Proofs.Ytgmemndjclhheae.openLen
  rw [h.box_cell.1]

/-- A job's slot is set. -/
theorem PlanAt.setSlot (h : PlanAt J m P w ov ol lf Bg Wk dg) (b t c : Nat) : PlanAt J m P ((w.setCell ⟨P.gs, b * 2, none⟩ (.int .i64 (t : Int))).setCell ⟨P.gs, b * 2 + 1, none⟩ (.int .i64 (c : Int))) ov ol lf (Gr.put Bg b t) (Gr.put Wk b c) dg := by
  obtain ⟨n1, n2, n3, n4, n5, n6⟩ := h.ne
  have st : ∀ g, g ≠ P.gs → ((w.setCell ⟨P.gs, b * 2, none⟩ (.int .i64 (t : Int))).setCell ⟨P.gs, b * 2 + 1, none⟩ (.int .i64 (c : Int))).heap[g]? = w.heap[g]? := fun g hn =>
    (Below.heap_setCell _ ⟨P.gs, b * 2 + 1, none⟩ _ g hn).trans (Below.heap_setCell w ⟨P.gs, b * 2, none⟩ _ g hn)
  have hRd : ∀ k, P.R k → k ≠ P.gs := fun k hk e => h.rs (e ▸ hk)
  refine ⟨(st _ n2).trans h.box, h.jobs.keep fun k hk => st k (hRd k hk), h.waits.keep (fun k hk => st k (hRd k hk)) (st _ n4), own_keep h.own fun g e => st g (h.ro g e).2.2.2.1, ((h.slots.set (b * 2) _).set (b * 2 + 1) _).congr fun i _ => slotF_put Bg Wk b t c i, h.doing.of_block (st _ fun e => n6 e.symm), fun k hk => by simpa using h.rlt k hk, h.rp, h.rs, h.rd, h.ro, h.ne, by simpa using h.le⟩
end

/-- What begin leaves. -/
def BeginRes (J : Jb) (m t : Nat) (P : PlanB) (O : Nat → Bool) (w : World) (e : Ending) (w' : World) : Prop :=
  e = .returned (.tuple #[]) ∧ ∃ ov ol D Bg Wk dg, PlanAt J m P w' ov ol (lfO J O) Bg Wk dg ∧ Set_ J m t D Bg Wk O dg ol ∧ But (fun k => P.base ≤ k) w w'

set_option maxRecDepth 100000 in
set_option maxHeartbeats 1000000 in
theorem begin_any {J : Jb} {m : Nat} {P : PlanB} {w : World} {ov : Value} {ol : List Nat} {D O : Nat → Bool} {Bg Wk : Nat → Nat} {dg : Nat → Int} {t : Nat} (h : PlanAt J m P w ov ol (lfO J O) Bg Wk dg) (F : Bgn J m t D Bg Wk O dg ol 0) (hR : J.Right) (hm : m ≤ 16) (hbp : P.base ≤ P.p ∧ P.base ≤ P.gl ∧ P.base ≤ P.gd ∧ P.base ≤ P.gs) :
    Calls Try.prog 74 #[.pointer (some ⟨P.p, 0, none⟩), .int .i64 t] w (BeginRes J m t P O w) := by
  have hn := hR.few
  go_enter Try.func74, Try.ntmps74
  go_wp2_with fail
  go_loopw [6] (fun _ wr => ∃ (q : Nat) (ov : Value) (ol : List Nat) (D : Nat → Bool) (Bg Wk : Nat → Nat) (dg : Nat → Int), q ≤ m ∧ PlanAt J m P wr ov ol (lfO J O) Bg Wk dg ∧ Bgn J m t D Bg Wk O dg ol q ∧ But (fun k => P.base ≤ k) w wr) (fun _ wr => openLen P.p wr)
  case atStart => exact ⟨0, ov, ol, D, Bg, Wk, dg, Nat.zero_le _, h, F, But.refl _ _⟩
  case round =>
    rename World => w3
    clear h F
    obtain ⟨q, ov, ol, D, Bg, Wk, dg, hq, h, F, hbt⟩ := hrel
    obtain ⟨oa, oc, hov, ho1, ho2, _⟩ := own_shape h.own
    have p2 := h.box_cell.1
    rw [hov] at p2
    have p3 : w3.cell? ⟨P.p, 3, none⟩ = some (.slice (some ⟨P.gs, 0, none⟩) J.n J.n) := cell_in h.box 3 _ rfl
    have p4 : w3.cell? ⟨P.p, 4, none⟩ = some (.slice (some ⟨P.gd, 0, none⟩) m m) := cell_in h.box 4 _ rfl
    by_cases hne : ol = []
    · subst hne
      have HS : Hid (Set_ J m t D Bg Wk O dg []) := F.set_none hR hq
      have HP : Hid (PlanAt J m P w3 ov [] (lfO J O) Bg Wk dg) := h
      clear F h hov
      go_wp2_with fail
      go_end0
      exact ⟨rfl, ov, [], D, Bg, Wk, dg, HP.out, HS.out, hbt⟩
    · have hpos : 0 < ol.length := List.length_pos_iff.2 hne
      have hd0 : decide ((0 : Int) < ol.length) = true := by simp; omega
      have KX := index_any h.doing hm
      have hlt : ∀ y ∈ ol, y < J.n := fun y hy => ((F.openl.mem y).1 hy).1
      have hle : ol.length ≤ J.n := by
        have := undone_list J ol F.openl.nd hlt
        omega
      have KT := take_any h hR hne hlt F.openl.nd (by omega) hbp.1
      rcases Classical.em (∀ y, y < m → dg y ≠ -1) with hall | hall
      · have HS : Hid (Set_ J m t D Bg Wk O dg ol) := F.set_all hq hall
        have HP : Hid (PlanAt J m P w3 ov ol (lfO J O) Bg Wk dg) := h
        have HA : Hid (∀ y, y < m → dg y ≠ -1) := hall
        clear F h hov hall KT hne hlt
        go_wp2_with (go_at_call 108; refine KX.mono ?_; rintro r w4 ⟨i, rfl, hi, rfl⟩; obtain rfl : i = -1 := (by rcases hi with ⟨e, _⟩ | ⟨c, _, hc, h1, _⟩; exact e; exact absurd h1 (HA.out c hc)))
        exact bodyPost_ret (results_none (by kernel_rfl) _ _ _) rfl ⟨rfl, ov, ol, D, Bg, Wk, dg, HP.out, HS.out, hbt⟩
      · have HA : Hid (¬ ∀ y, y < m → dg y ≠ -1) := hall
        have hol := h.openLen
        have HOL : Hid (openLen P.p w3 = ol.length) := hol
        clear h hov hall hne hlt hol
        go_upto_region 3 with (go_at_call 108; refine KX.mono ?_; rintro r w4 ⟨i, rfl, hi, rfl⟩; obtain ⟨c, rfl, hcm, hfree, hbusy⟩ : ∃ c : Nat, i = c ∧ c < m ∧ dg c = -1 ∧ ∀ y, y < c → dg y ≠ -1 := (by rcases hi with ⟨_, e⟩ | e; exact absurd e HA.out; exact e))
        clear p2 p3 p4 KX hi
        go_upto_region 4 with (go_at_call 109; refine KT.mono ?_; rintro r w5 ⟨b, ov5, ol5, rfl, hbm, hbest, hnd5, hmem5, hlen5, h5, hbt5⟩)
        have hbn : b < J.n := ((F.openl.mem b).1 hbm).1
        have F' := F.begins hR hcm hfree hbusy hbm hbest hnd5 hmem5
        have HF : Hid (Bgn J m t (Gr.put D b true) (Gr.put Bg b t) (Gr.put Wk b c) O (Gr.put dg c b) ol5 (c + 1)) := F'
        clear F' F hfree hbusy hbest hmem5 KT hbm
        have p4 : w5.cell? ⟨P.p, 4, none⟩ = some (.slice (some ⟨P.gd, 0, none⟩) m m) := cell_in h5.box 4 _ rfl
        have d5 := h5.doing.cell hcm
        have z5 := h5.doing.frozen c
        have y5 := h5.doing.lt
        have h6 := h5.setDoing c b
        have hbt6 : But (fun k => P.base ≤ k) w (w5.setCell ⟨P.gd, c, none⟩ (.int .i64 (b : Int))) := (hbt.trans hbt5).trans (But.set (F := fun k => P.base ≤ k) w5 P.gd c _ hbp.2.2.1)
        go_upto_region 5 with fail
        obtain ⟨W6, hW6⟩ : ∃ X, w5.setCell ⟨P.gd, c, none⟩ (.int .i64 (b : Int)) = X := ⟨_, rfl⟩
        rw [hW6] at h6 hbt6 ⊢
        clear hW6 p4 d5 z5 y5 h5 hbt5 hbt
        have p3 : W6.cell? ⟨P.p, 3, none⟩ = some (.slice (some ⟨P.gs, 0, none⟩) J.n J.n) := cell_in h6.box 3 _ rfl
        have s0 := h6.slots.cell (i := b * 2) (by omega)
        have s1 := h6.slots.cell (i := b * 2 + 1) (by omega)
        have z0 := h6.slots.frozen (b * 2)
        have z1 := h6.slots.frozen (b * 2 + 1)
        have y0 := h6.slots.lt
        have h7 := h6.setSlot b t c
        have hbt7 : But (fun k => P.base ≤ k) w ((W6.setCell ⟨P.gs, b * 2, none⟩ (.int .i64 (t : Int))).setCell ⟨P.gs, b * 2 + 1, none⟩ (.int .i64 (c : Int))) := (hbt6.trans (But.set (F := fun k => P.base ≤ k) W6 P.gs _ _ hbp.2.2.2)).trans (But.set (F := fun k => P.base ≤ k) _ P.gs _ _ hbp.2.2.2)
        go_wp2_with fail
        go_roundw
        case rel => exact ⟨c + 1, ov5, ol5, _, _, _, _, by omega, h7, HF.out, hbt7⟩
        case measure =>
          have e7 := h7.openLen
          have e3 := HOL.out
          show openLen P.p _ < openLen P.p w4
          rw [e7, e3]
          omega

#print axioms begin_any
end Go.Proofs.Ytgmemndjclhheae
