/-
  OUR OWN TEXT. goThrough and Plan: what the landed code's Plan is held to.
-/
import Derived.Test.YtgmemndjclhheaeNr
namespace Go.Proofs.Ytgmemndjclhheae
open Go.RowKit

theorem PlanAt.congr_lf {J : Jb} {m : Nat} {P : PlanB} {w : World} {ov : Value} {ol : List Nat} {lf lf' Bg Wk : Nat → Nat} {dg : Nat → Int} (h : PlanAt J m P w ov ol lf Bg Wk dg) (hl : ∀ i, i < J.n → lf i = lf' i) : PlanAt J m P w ov ol lf' Bg Wk dg :=
  ⟨h.box, h.jobs, ⟨h.waits.box, h.waits.left.congr fun i hi => by rw [hl i hi], h.waits.row, h.waits.own, h.waits.rq, h.waits.rb, h.waits.rv, h.waits.out⟩, h.own, h.slots, h.doing, h.rlt, h.rp, h.rs, h.rd, h.ro, h.ne, h.le⟩

theorem Fin.time {J : Jb} {m t : Nat} {D O : Nat → Bool} {Bg Wk : Nat → Nat} {dg : Nat → Int} {ol : List Nat} {x : Nat} (hR : J.Right) (F : Fin J m t D Bg Wk O dg ol x) : t ≤ 200000 := by
  have h1 := F.gone
  have h2 := Gr.gone_le J.gr D Bg t
  have h3 := work_total hR
  omega

/-- What goThrough answers. -/
def GoRes (J : Jb) (m : Nat) (P : PlanB) (w : World) (e : Ending) (w' : World) : Prop := ∃ (E : Nat) (ov : Value) (ol : List Nat) (lf Bg Wk : Nat → Nat) (dg : Nat → Int), e = .returned (.int .i64 E) ∧ PlanAt J m P w' ov ol lf Bg Wk dg ∧ Gr.Ruled J.gr J.urg m Bg Wk ∧ (∀ i, i < J.n → Bg i + J.gr.len i ≤ E) ∧ (E = 0 ∨ ∃ i, i < J.n ∧ Bg i + J.gr.len i = E) ∧ But (fun k => P.base ≤ k) w w'

set_option maxRecDepth 100000 in
set_option maxHeartbeats 1000000 in
theorem goThrough_any {J : Jb} {m : Nat} {P : PlanB} {w : World} {ov : Value} (h : PlanAt J m P w ov (freeTo J J.n) (fun i => (J.aft i).length) (fun _ => 0) (fun _ => 0) (fun _ => -1)) (hR : J.Right) (hA : J.Acyc) (hb : Beh J P.bh) (hnb : ¬ J.Big) (hm1 : 1 ≤ m) (hm : m ≤ 16) (hbp : P.base ≤ P.p ∧ P.base ≤ P.gl ∧ P.base ≤ P.gd ∧ P.base ≤ P.gs) :
    Calls Try.prog 46 #[.pointer (some ⟨P.p, 0, none⟩)] w (GoRes J m P w) := by
  have h0 : PlanAt J m P w ov (freeTo J J.n) (lfO J (fun _ => false)) (fun _ => 0) (fun _ => 0) (fun _ => -1) := h.congr_lf fun i _ => (lf_none J i).symm
  have htot := work_total hR
  go_enter Try.func46, Try.ntmps46
  go_wp2_with fail
  go_loopw [3] (fun nv wr => ∃ (t : Nat) (ov : Value) (ol : List Nat) (D O : Nat → Bool) (Bg Wk : Nat → Nat) (dg : Nat → Int), nv = .int .i64 t ∧ PlanAt J m P wr ov ol (lfO J O) Bg Wk dg ∧ Fin J m t D Bg Wk O dg ol 0 ∧ But (fun k => P.base ≤ k) w wr) (fun nv _ => 200001 - (intOf nv).toNat)
  case atStart => exact ⟨0, ov, _, _, _, _, _, _, rfl, h0, fin_start J m, But.refl _ _⟩
  case round =>
    rename World => w3
    clear h h0
    obtain ⟨t, ov, ol, D, O, Bg, Wk, dg, rfl, h, F, hbt⟩ := hrel
    have ht := F.time hR
    have KF := finish_any h F hR hb hnb hm ht ⟨hbp.1, hbp.2.1, hbp.2.2.1⟩
    clear h F
    go_upto_region 3 with (go_at_call 73; refine KF.mono ?_; rintro e w4 ⟨rfl, ov4, ol4, O4, dg4, h4, F4, hbt4⟩)
    have KB := begin_any h4 F4.bgn hR hm hbp
    clear KF h4 F4
    go_upto_region 4 with (go_at_call 74; refine KB.mono ?_; rintro e w5 ⟨rfl, ov5, ol5, D5, Bg5, Wk5, dg5, h5, S5, hbt5⟩)
    have KN := nextEnd_any h5 hR hm (fun y hy => by
      rcases S5.doing.some y hy with h1 | ⟨k, h1, h2, h3, _, _⟩
      · exact .inl h1
      · have := (S5.part.at_ k h2 h3).2
        exact .inr ⟨k, h1, h2, by omega⟩)
    have hbt05 : But (fun k => P.base ≤ k) w w5 := (hbt.trans hbt4).trans hbt5
    clear KB hbt hbt4 hbt5
    go_upto_region 5 with (go_at_call 75; refine KN.mono ?_; rintro e w6 ⟨next, some, rfl, hto, q6, rfl⟩)
    have h6 := h5.drew q6
    have hbt6 : But (fun k => P.base ≤ k) w (w5.drewN q6) := hbt05.trans (But.of_below (below_drewN w5 q6))
    clear KN hbt05 h5
    cases some with
    | false =>
      have hend := S5.end_ hR hA hm1 (fun x hx => by
        rcases hto with ⟨_, h1⟩ | ⟨h1, _⟩
        · exact h1 x hx
        · cases h1)
      have HE : Hid (Gr.Ruled J.gr J.urg m Bg5 Wk5 ∧ (∀ i, i < J.n → Bg5 i + J.gr.len i ≤ t) ∧ (t = 0 ∨ ∃ i, i < J.n ∧ Bg5 i + J.gr.len i = t)) := hend
      clear hend hto S5
      go_wp2_with fail
      go_ret
      exact ⟨t, ov5, ol5, _, Bg5, Wk5, dg5, rfl, h6, HE.out.1, HE.out.2.1, HE.out.2.2, hbt6⟩
    | true =>
      rcases hto with ⟨h1, _⟩ | ⟨_, y, k, hy, hk, hkn, hn, hmin⟩
      · cases h1
      · obtain ⟨hF, hlt, hle⟩ := S5.next hR hy hk hmin
        obtain ⟨t2, ht2⟩ : ∃ t2, Bg5 k + J.gr.len k = t2 := ⟨_, rfl⟩
        rw [ht2] at hF hlt hle hn
        subst hn
        have HF : Hid (Fin J m t2 D5 Bg5 Wk5 O4 dg5 ol5 0) := hF
        clear hF hmin S5 ht2 hk
        go_wp2_with fail
        go_roundw
        case rel => exact ⟨t2, ov5, ol5, D5, O4, Bg5, Wk5, dg5, rfl, h6, HF.out, hbt6⟩
        case measure => simp [intOf]; omega

set_option maxRecDepth 100000 in
set_option maxHeartbeats 1000000 in
theorem plan_says : PlanSays := by
  intro J w B v m hin hB hsm
  have K := checkFor_any J w B v m hin hB hsm
  obtain ⟨c, hch⟩ := chk_some J
  by_cases hok : c = 0 ∧ 1 ≤ m ∧ m ≤ 16
  · obtain ⟨rfl, h1, h2⟩ := hok
    obtain ⟨hR, hA⟩ := hch.right
    have hgb : J.Good ∧ ¬ J.Big := by
      rcases hch with ⟨_, h⟩ | ⟨_, _, h⟩ | ⟨_, _, _, h⟩ | ⟨h1, h2, _, _⟩
      · cases h
      · cases h
      · cases h
      · exact ⟨h1, h2⟩
    obtain ⟨mm, rfl⟩ : ∃ mm : Nat, m = mm := ⟨m.toNat, by omega⟩
    have KP := fun W (hb : Below w.heap.size w W) => newPlan_any J W B v mm (hin.keep fun k hk => hb.block k (by omega)) (by have := hb.size; omega) hgb.1 hgb.2 hR.few hsm (by omega) (by omega)
    have hn := hR.few
    obtain ⟨a, cap, rfl, hr⟩ := hin
    clear hr
    have HC : Hid (J.Chk 0) := hch
    go_enter Try.func21, Try.ntmps21
    go_upto_region 4 with (go_at_call 37; refine K.mono ?_; rintro e w1 ⟨er, rfl, ha, hb1⟩; obtain rfl := ha.right hch h1 h2)
    have KP1 := KP w1 hb1
    clear KP K ha
    go_upto_region 5 with (go_at_call 45; refine KP1.mono ?_; rintro e w2 ⟨P, ov, rfl, h2', hbeh, hbase, hbp, hb2⟩)
    have KG := goThrough_any h2' hR hA hbeh hgb.2 (by omega) (by omega) hbp
    clear KP1
    go_upto_region 6 with (go_at_call 46; refine KG.mono ?_; rintro e w3 ⟨E, ov3, ol3, lf3, Bg, Wk, dg3, rfl, h3, hrul, hends, hlast, hbt3⟩)
    have hs1 := hb1.size
    have hs2 := hb2.size
    have hb03 : Below w.heap.size w w3 := (hb1.trans (hb2.mono hs1)).trans (hbt3.below (by omega) (fun k hk e => by omega))
    have p3 : w3.cell? ⟨P.p, 3, none⟩ = some (.slice (some ⟨P.gs, 0, none⟩) J.n J.n) := cell_in h3.box 3 _ rfl
    have HS : Hid (SlotsIn w3 J.n Bg Wk (.slice (some ⟨P.gs, 0, none⟩) J.n J.n)) := by
      refine ⟨_, _, rfl, Nat.le_refl _, by unfold maxLen; omega, fun i hi => ⟨P.gs, 0, rfl, h3.slots.lt, ?_, ?_⟩⟩
      · have := h3.slots.cell (i := i * 2) (by omega)
        rw [slotF_even] at this
        simpa using this
      · have := h3.slots.cell (i := i * 2 + 1) (by omega)
        rw [slotF_odd] at this
        simpa using this
    have HR : Hid (Gr.Ruled J.gr J.urg mm Bg Wk ∧ (∀ i, i < J.n → Bg i + J.gr.len i ≤ E) ∧ (E = 0 ∨ ∃ i, i < J.n ∧ Bg i + J.gr.len i = E)) := ⟨hrul, hends, hlast⟩
    clear KG h3 h2' hrul hends hlast hbeh hbase hbp hbt3
    go_wp2_with fail
    refine bodyPost_ret (v := .tuple #[.slice (some ⟨P.gs, 0, none⟩) J.n J.n, .int .i64 (E : Int), .int .i64 0]) (by simp [results, Try.results21, go_sem]) rfl ⟨_, _, _, rfl, ⟨fun c' h hn => absurd (h.only hch) hn, fun _ h => absurd ⟨h1, h2⟩ h, fun _ _ _ => ⟨rfl, Bg, Wk, E, rfl, ?_, HR.out.2.1, HR.out.2.2, HS.out⟩⟩, hb03⟩
    rw [Int.toNat_natCast]
    exact HR.out.1
  · obtain ⟨a, cap, rfl, hr⟩ := hin
    clear hr
    go_enter Try.func21, Try.ntmps21
    go_upto_region 2 with (go_at_call 37; refine K.mono ?_; rintro e w1 ⟨er, rfl, ha, hb1⟩)
    have hne : er ≠ 0 := by
      by_cases hc0 : c = 0
      · subst hc0
        have := ha.few hch (fun h => hok ⟨rfl, h⟩)
        omega
      · have := ha.wrong c hch hc0
        omega
    have hd : (er == 0) = false := by simpa using hne
    have HN : Hid (er ≠ 0) := hne
    clear hne hok
    go_wp2_with fail
    exact bodyPost_ret (v := .tuple #[.slice none 0 0, .int .i64 0, .int .i64 er]) (by simp [results, Try.results21, go_sem]) rfl ⟨_, _, _, rfl, ⟨fun c' h hn => ⟨ha.wrong c' h hn, rfl, none, 0, rfl⟩, fun h hm => ⟨ha.few h hm, rfl, none, 0, rfl⟩, fun h h1 h2 => absurd (ha.right h h1 h2) HN.out⟩, hb1⟩

#print axioms goThrough_any
#print axioms plan_says
end Go.Proofs.Ytgmemndjclhheae
