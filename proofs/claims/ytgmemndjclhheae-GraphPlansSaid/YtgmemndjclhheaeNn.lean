/-
  OUR OWN TEXT. takeUrgent.
-/
import Derived.Test.YtgmemndjclhheaeNm
namespace Go.Proofs.Ytgmemndjclhheae
open Go.RowKit

section
variable {J : Jb} {m : Nat} {P : PlanB} {w w5 : World} {ov ov' : Value} {ol ol' : List Nat} {lf lf' Bg Wk : Nat → Nat} {dg : Nat → Int} {F : Nat → Prop}

/-- What stands though the row of open jobs and the row of counts have changed. -/
theorem PlanAt.reopen (h : PlanAt J m P w ov ol lf Bg Wk dg) (hb : But F w w5) (hF : ∀ k, F k → ov.ownBlock = some k ∨ k = P.gl) (hW : WaitsAt w5 P.R J.n P.q P.gl P.gb lf' P.bv P.bh)
    (hown : w5.ownsRow P.base 3 1 ov' ol'.length (ints ol')) (hro : ∀ g, ov'.ownBlock = some g → ¬ P.R g ∧ g ≠ P.p ∧ g ≠ P.gl ∧ g ≠ P.gs ∧ g ≠ P.gd) : PlanAt J m P (w5.setCell ⟨P.p, 2, none⟩ ov') ov' ol' lf' Bg Wk dg := by
  obtain ⟨n1, n2, n3, n4, n5, n6⟩ := h.ne
  have st : ∀ g, g ≠ P.p → (w5.setCell ⟨P.p, 2, none⟩ ov').heap[g]? = w5.heap[g]? := fun g hn => Below.heap_setCell w5 ⟨P.p, 2, none⟩ ov' g hn
  have hp : w5.heap[P.p]? = w.heap[P.p]? := hb.block _ (Array.getElem?_eq_some_iff.1 h.box).1 fun hf => by
    rcases hF _ hf with e | e
    · exact (h.ro _ e).2.1 rfl
    · exact n1 e
  have hs : w5.heap[P.gs]? = w.heap[P.gs]? := hb.block _ h.slots.lt fun hf => by
    rcases hF _ hf with e | e
    · exact (h.ro _ e).2.2.2.1 rfl
    · exact n4 e.symm
  have hd : w5.heap[P.gd]? = w.heap[P.gd]? := hb.block _ h.doing.lt fun hf => by
    rcases hF _ hf with e | e
    · exact (h.ro _ e).2.2.2.2 rfl
    · exact n5 e.symm
  have hRk : ∀ k, P.R k → w5.heap[k]? = w.heap[k]? := fun k hk => hb.block k (h.rlt k hk) fun hf => by
    rcases hF _ hf with e | e
    · exact (h.ro _ e).1 hk
    · exact h.waits.out (e ▸ hk)
  have hRp : ∀ k, P.R k → k ≠ P.p := fun k hk e => h.rp (e ▸ hk)
  refine ⟨heap_setCell_same w5 P.p 2 _ _ ov' (hp.trans h.box), h.jobs.keep fun k hk => (st k (hRp k hk)).trans (hRk k hk), hW.keep (fun k hk => st k (hRp k hk)) (st _ fun e => n1 e.symm), own_keep hown fun g e => st g (hro g e).2.1,
    h.slots.of_block ((st _ fun e => n2 e.symm).trans hs), h.doing.of_block ((st _ fun e => n3 e.symm).trans hd), fun k hk => ?_, h.rp, h.rs, h.rd, hro, h.ne, ?_⟩
  · have h1 := h.rlt k hk
    have h2 := hb.size
    simp
    omega
  · have h1 := h.le
    have h2 := hb.size
    simp
    omega

theorem PlanAt.box_cell (h : PlanAt J m P w ov ol lf Bg Wk dg) : w.cell? ⟨P.p, 2, none⟩ = some ov ∧ w.frozen? ⟨P.p, 2, none⟩ = false := by
  refine ⟨cell_in h.box 2 _ rfl, ?_⟩
  simp [World.frozen?, h.box]
end

theorem better_trans {urg : Nat → Int} {a b c : Nat} (h : Gr.better urg a b) (k : Gr.better urg b c) : Gr.better urg a c := by
  unfold Gr.better at *
  omega
theorem better_total {urg : Nat → Int} {a b : Nat} (h : ¬ Gr.better urg a b) (hne : a ≠ b) : Gr.better urg b a := by
  unfold Gr.better at *
  omega

/-- The best of the first k. -/
structure BestI (urg : Nat → Int) (ol : List Nat) (k f : Nat) : Prop where
  lt : f < ol.length
  first : 0 < k → f < k
  best : ∀ (hf : f < ol.length) j (h : j < ol.length), j < k → j ≠ f → Gr.better urg ol[f] ol[j]

theorem bestI_yes {urg : Nat → Int} {ol : List Nat} {k f : Nat} (h : BestI urg ol k f) (hk : k < ol.length) (hb : Gr.better urg ol[k] (ol[f]'h.lt)) : BestI urg ol (k + 1) k where
  lt := hk
  first _ := by omega
  best _ j hj hjk hne := by
    have h1 : j < k := by omega
    by_cases e : j = f
    · subst e; exact hb
    · exact better_trans hb (h.best h.lt j hj h1 e)

theorem bestI_no {urg : Nat → Int} {ol : List Nat} {k f : Nat} (h : BestI urg ol k f) (hk : k < ol.length) (hnd : ol.Nodup) (hb : ¬ Gr.better urg ol[k] (ol[f]'h.lt)) (h0 : k = 0 → f = 0) : BestI urg ol (k + 1) f where
  lt := h.lt
  first _ := by
    rcases Nat.eq_zero_or_pos k with e | e
    · have := h0 e; omega
    · have := h.first e; omega
  best hf j hj hjk hne := by
    rcases Nat.lt_succ_iff_lt_or_eq.1 hjk with h1 | rfl
    · exact h.best hf j hj h1 hne
    · refine better_total hb fun e => hne ?_
      exact (List.getElem_inj hnd).1 e

theorem erase_mem {ol : List Nat} (hnd : ol.Nodup) {f : Nat} (hf : f < ol.length) (i : Nat) : i ∈ ol.eraseIdx f ↔ i ∈ ol ∧ i ≠ ol[f] := by
  rw [List.mem_eraseIdx_iff_getElem]
  constructor
  · rintro ⟨j, hj, hne, rfl⟩
    exact ⟨List.getElem_mem _, fun e => hne ((List.getElem_inj hnd).1 e)⟩
  · rintro ⟨h1, h2⟩
    obtain ⟨j, hj, rfl⟩ := List.mem_iff_getElem.1 h1
    exact ⟨j, hj, fun e => h2 (by subst e; rfl), rfl⟩

/-- What takeUrgent answers. -/
def TakeRes (J : Jb) (m : Nat) (P : PlanB) (w : World) (ol : List Nat) (lf Bg Wk : Nat → Nat) (dg : Nat → Int) (e : Ending) (w' : World) : Prop :=
  ∃ (b : Nat) (ov' : Value) (ol' : List Nat), e = .returned (.int .i64 b) ∧ b ∈ ol ∧ (∀ i ∈ ol, i ≠ b → Gr.better J.urg b i) ∧ ol'.Nodup ∧ (∀ i, i ∈ ol' ↔ i ∈ ol ∧ i ≠ b) ∧ ol'.length + 1 = ol.length ∧ PlanAt J m P w' ov' ol' lf Bg Wk dg ∧ But (fun k => P.base ≤ k) w w'

set_option maxRecDepth 100000 in
set_option maxHeartbeats 1000000 in
theorem take_any {J : Jb} {m : Nat} {P : PlanB} {w : World} {ov : Value} {ol : List Nat} {lf Bg Wk : Nat → Nat} {dg : Nat → Int} (h : PlanAt J m P w ov ol lf Bg Wk dg) (hR : J.Right) (hne : ol ≠ []) (hlt : ∀ x ∈ ol, x < J.n) (hnd : ol.Nodup) (hfew : ol.length ≤ 1000000) (hbp : P.base ≤ P.p) :
    Calls Try.prog 109 #[.pointer (some ⟨P.p, 0, none⟩)] w (TakeRes J m P w ol lf Bg Wk dg) := by
  obtain ⟨n, hn⟩ : ∃ n, ol.length = n + 1 := by
    cases ol with
    | nil => exact absurd rfl hne
    | cons x l => exact ⟨l.length, rfl⟩
  obtain ⟨oa, oc, hov, ho1, ho2, _⟩ := own_shape h.own
  unfold maxLen at ho2
  have hown := h.own
  rw [hov] at hown
  obtain ⟨g, hoa, hg1, hg2, hx1, hx2⟩ := own_int hown (show 0 < ol.length by omega)
  clear hx1 hx2
  rw [hoa] at hov hown
  have hro := h.ro g (by rw [hov]; rfl)
  have p2 := h.box_cell.1
  rw [hov] at p2
  have c2 : ∀ q j (hj : j < ol.length), (w.drewN q).cell? ⟨g, j, none⟩ = some (.int .i64 (ol[j] : Nat)) := fun q j hj => by
    obtain ⟨g', e, _, _, hc, _⟩ := own_int hown hj
    cases e
    exact hc
  have k2 : ∀ q, (w.drewN q).cell? ⟨P.p, 2, none⟩ = some (.slice (some ⟨g, 0, none⟩) ol.length oc) := fun _ => p2
  have HN1 : Hid (ol.length = n + 1) := hn
  have hpos : 0 < ol.length := by omega
  clear hne hn
  go_enter Try.func109, Try.ntmps109
  go_wp2_with fail
  go_loopw [3, 11] (fun fv kv wr => ∃ f k q : Nat, k ≤ ol.length ∧ fv = .int .i64 f ∧ kv = .int .i64 k ∧ wr = w.drewN q ∧ BestI J.urg ol k f ∧ (k = 0 → f = 0)) (fun _ kv _ => ol.length - (intOf kv).toNat)
  case atStart => exact ⟨0, 0, 0, Nat.zero_le _, rfl, rfl, rfl, ⟨hpos, fun h => by omega, fun _ j _ h => by omega⟩, fun _ => rfl⟩
  case round =>
    rename World => w3
    obtain ⟨f, k, q, hk, rfl, rfl, rfl, hbest, hf0⟩ := hrel
    by_cases hkt : k < ol.length
    · have hfl := hbest.lt
      have a1 := fun q => c2 q k hkt
      have a2 := fun q => c2 q f hfl
      have hkn := hlt _ (List.getElem_mem hkt)
      have hfn := hlt _ (List.getElem_mem hfl)
      have HY := fun hb => bestI_yes hbest hkt hb
      have HN := fun hb => bestI_no hbest hkt hnd hb hf0
      obtain ⟨x, hx⟩ : ∃ x, ol[k] = x := ⟨_, rfl⟩
      obtain ⟨y, hy⟩ : ∃ y, ol[f] = y := ⟨_, rfl⟩
      rw [hx, hy] at HY HN
      rw [hx] at a1 hkn
      rw [hy] at a2 hfn
      by_cases hbt : Gr.better J.urg x y
      · have hcall : ∀ n, Calls Try.prog 125 #[.pointer (some ⟨P.p, 0, none⟩), .int .i64 x, .int .i64 y] (w.drewN (q + n)) fun e w' => e = .returned (.bool true) ∧ ∃ n', w' = w.drewN (q + n') := fun n =>
          (ahead_any (h.drew (q + n)) hR hkn hfn true ⟨fun _ => hbt, fun _ => rfl⟩).mono fun e w' ⟨he, k', hk'⟩ => ⟨he, n + k', by rw [hk', drewN_two, Nat.add_assoc]⟩
        have HB : Hid (BestI J.urg ol (k + 1) k) := HY hbt
        clear HY HN hbt hx hy hbest c2 h hown hro hf0
        go_upto_region 5 with fail
        go_quiet ((go_at_call 125; exact hcall _))
        go_wp2_with fail
        go_roundw
        case rel => exact ⟨k, k + 1, _, by omega, rfl, by go_num, rfl, HB.out, fun h => by omega⟩
        case measure => simp [intOf]; omega
      · have hcall : ∀ n, Calls Try.prog 125 #[.pointer (some ⟨P.p, 0, none⟩), .int .i64 x, .int .i64 y] (w.drewN (q + n)) fun e w' => e = .returned (.bool false) ∧ ∃ n', w' = w.drewN (q + n') := fun n =>
          (ahead_any (h.drew (q + n)) hR hkn hfn false ⟨fun h => (by cases h), fun h => absurd h hbt⟩).mono fun e w' ⟨he, k', hk'⟩ => ⟨he, n + k', by rw [hk', drewN_two, Nat.add_assoc]⟩
        have HB : Hid (BestI J.urg ol (k + 1) f) := HN hbt
        clear HY HN hbt hx hy hbest c2 h hown hro
        go_upto_region 5 with fail
        go_quiet ((go_at_call 125; exact hcall _))
        go_wp2_with fail
        go_roundw
        case rel => exact ⟨f, k + 1, _, by omega, rfl, by go_num, rfl, HB.out, fun h => by omega⟩
        case measure => simp [intOf]; omega
    · obtain rfl : k = ol.length := by omega
      have hn := HN1.out
      have hfl := hbest.lt
      have a1 := c2 q f hfl
      have p2' := k2 q
      have hownq : (w.drewN q).ownsRow P.base 3 1 (.slice (some ⟨g, 0, none⟩) (n + 1) oc) (n + 1) (ints ol) := by rw [← hn]; exact own_keep hown fun _ _ => rfl
      have KD := delete_one hownq (i := f) (by omega) (by omega)
      rw [← hn] at KD
      have HM : Hid (∀ i ∈ ol, i ≠ ol[f] → Gr.better J.urg ol[f] i) := fun i hi hne => by
        obtain ⟨j, hj, rfl⟩ := List.mem_iff_getElem.1 hi
        exact hbest.best hfl j hj hj fun e => hne (by subst e; rfl)
      obtain ⟨b, hb⟩ : ∃ b, ol[f] = b := ⟨_, rfl⟩
      have HMem : Hid (b ∈ ol) := hb ▸ List.getElem_mem hfl
      have HEr : Hid (∀ i, i ∈ ol.eraseIdx f ↔ i ∈ ol ∧ i ≠ b) := fun i => by rw [← hb]; exact erase_mem hnd hfl i
      have HNd : Hid ((ol.eraseIdx f).Nodup) := hnd.sublist (List.eraseIdx_sublist _ _)
      have hlen : (ol.eraseIdx f).length = n := by rw [List.length_eraseIdx, if_pos hfl, hn]; rfl
      have HLen : Hid ((ol.eraseIdx f).length = n) := hlen
      have HBd : Hid (ol[f] = b) := hb
      have hfz := (h.drew q).box_cell.2
      have HP : Hid (PlanAt J m P (w.drewN q) ov ol lf Bg Wk dg) := h.drew q
      have HOV : Hid (ov = .slice (some ⟨g, 0, none⟩) ol.length oc) := hov
      rw [hb] at a1
      have hpg : g ≠ P.p := hro.2.1
      have HRO : Hid (¬ P.R g ∧ g ≠ P.p ∧ g ≠ P.gl ∧ g ≠ P.gs ∧ g ≠ P.gd) := hro
      have H5 : Hid (∀ w5, But (fun k => k = g) (w.drewN q) w5 → w5.cell? ⟨P.p, 2, none⟩ = some (.slice (some ⟨g, 0, none⟩) ol.length oc) ∧ w5.frozen? ⟨P.p, 2, none⟩ = false) := fun w5 hb5 => by
        have e : w5.heap[P.p]? = (w.drewN q).heap[P.p]? := hb5.block _ (Array.getElem?_eq_some_iff.1 h.box).1 (fun e => hpg e.symm)
        exact ⟨(World.cell?_of_block e).trans p2', (World.frozen?_of_block e).trans hfz⟩
      clear hb hlen hbest c2 k2 h hown hro p2 hf0 hov hownq hn
      go_wp2_with (go_at_call 126; refine KD.mono ?_; rintro e w5 ⟨rfl, hown5, hb5⟩; obtain ⟨p5, z5⟩ := H5.out w5 hb5; clear p2' hfz)
      go_ret
      have hW5 : WaitsAt w5 P.R J.n P.q P.gl P.gb lf P.bv P.bh := HP.out.waits.but hb5 HP.out.rlt (fun k hk e => HRO.out.1 (e ▸ hk)) (fun e => HRO.out.2.2.1 e.symm)
      have hP := HP.out.reopen hb5 (fun k e => .inl (by rw [HOV.out, e]; rfl)) hW5 (ol' := ol.eraseIdx f) (ov' := .slice (some ⟨g, 0, none⟩) n oc) (by rw [HLen.out]; exact hown5) (fun g' e => by cases e; exact HRO.out)
      refine ⟨b, _, ol.eraseIdx f, rfl, HMem.out, fun i hi hne => ?_, HNd.out, HEr.out, by rw [HLen.out, HN1.out], hP, ?_⟩
      · have := HM.out i hi
        rw [HBd.out] at this
        exact this hne
      · exact ((But.of_below (below_drewN w q)).trans (hb5.mono fun k _ e => by omega)).trans (But.set (F := fun k => P.base ≤ k) w5 P.p 2 _ hbp)

#print axioms take_any
end Go.Proofs.Ytgmemndjclhheae
