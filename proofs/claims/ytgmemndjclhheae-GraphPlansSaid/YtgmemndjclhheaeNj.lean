/-
  OUR OWN TEXT. A plan that goes from each time at which a job ends to the next: plain mathematics.
-/
import Derived.Test.YtgmemndjclhheaeNa
namespace Gr
variable {J : Jobs} {m : Nat} {B W : Nat → Nat} {urg : Nat → Int} {D : Nat → Bool} {t : Nat}

/-- Between two ends nothing can begin. -/
theorem Part.jump (P : Part J urg m D B W t m) {t2 : Nat} (h : t < t2) (hno : ∀ k, k < J.n → D k = true → B k + J.len k ≤ t ∨ t2 ≤ B k + J.len k) (ha : ∀ i, i < J.n → ∀ a ∈ J.aft i, a < J.n) : Part J urg m D B W t2 0 where
  at_ i hi hD := by have := P.at_ i hi hD; omega
  ready := P.ready
  apart := P.apart
  rule := P.rule
  left i hi hD t' w' hx hr := by
    rcases Nat.lt_or_ge t t' with h1 | h1
    · have hr' : readyD J D B i t := fun a hm => by
        obtain ⟨h2, h3⟩ := hr a hm
        have h4 := hno a (ha i hi a hm) h2
        exact ⟨h2, by omega⟩
      obtain ⟨k, hk, h2, h3, h4, h5, _⟩ := P.left i hi hD t w' (by omega) hr'
      have h6 := hno k hk h2
      exact ⟨k, hk, h2, h3, by omega, by omega, fun e => by omega⟩
    · exact P.left i hi hD t' w' (by omega) hr

theorem gone_jump {k : Nat} (hk : k < J.n) (hD : D k = true) (h1 : B k ≤ t) : ∀ d, t + d ≤ B k + J.len k → gone J D B t + d ≤ gone J D B (t + d)
  | 0, _ => Nat.le_refl _
  | d + 1, h => by
    have ih := gone_jump hk hD h1 d (by omega)
    have := gone_step (J := J) (D := D) (B := B) (t := t + d) hk hD (by omega) (by omega)
    show _ ≤ gone J D B (t + d + 1)
    omega
end Gr

namespace Go.Proofs.Ytgmemndjclhheae
open Go.RowKit

/-- What each worker does. -/
structure Doing (J : Jb) (m : Nat) (D O : Nat → Bool) (Wk : Nat → Nat) (dg : Nat → Int) : Prop where
  some : ∀ x, x < m → dg x = -1 ∨ ∃ k : Nat, dg x = k ∧ k < J.n ∧ D k = true ∧ O k = false ∧ Wk k = x
  at_ : ∀ k, k < J.n → D k = true → O k = false → Wk k < m ∧ dg (Wk k) = k

/-- The jobs that can begin. -/
structure Openl (J : Jb) (D O : Nat → Bool) (ol : List Nat) : Prop where
  nd : ol.Nodup
  mem : ∀ x, x ∈ ol ↔ x < J.n ∧ D x = false ∧ lfO J O x = 0

/-- At a time, ahead of it and while the ends are looked at: the workers below x are through. -/
structure Fin (J : Jb) (m t : Nat) (D : Nat → Bool) (Bg Wk : Nat → Nat) (O : Nat → Bool) (dg : Nat → Int) (ol : List Nat) (x : Nat) : Prop where
  part : Gr.Part J.gr J.urg m D Bg Wk t 0
  doing : Doing J m D O Wk dg
  openl : Openl J D O ol
  over : ∀ k, k < J.n → O k = true → D k = true ∧ Bg k + J.gr.len k ≤ t
  left : ∀ k, k < J.n → D k = true → O k = false → t ≤ Bg k + J.gr.len k ∧ (Wk k < x → t < Bg k + J.gr.len k)
  gone : t ≤ Gr.gone J.gr D Bg t
  last : t = 0 ∨ ∃ i, i < J.n ∧ D i = true ∧ Bg i + J.gr.len i = t

section
variable {J : Jb} {m t x : Nat} {D O : Nat → Bool} {Bg Wk : Nat → Nat} {dg : Nat → Int} {ol nl : List Nat}

theorem fin_start (J : Jb) (m : Nat) : Fin J m 0 (fun _ => false) (fun _ => 0) (fun _ => 0) (fun _ => false) (fun _ => -1) (freeTo J J.n) 0 where
  part := Gr.part_start _ fun _ _ => rfl
  doing := ⟨fun _ _ => .inl rfl, fun _ _ h => by cases h⟩
  openl := ⟨freeTo_nd J _, fun x => by rw [freeTo_mem, lf_none]; simp⟩
  over _ _ h := by cases h
  left _ _ h := by cases h
  gone := Nat.zero_le _
  last := .inl rfl

theorem Fin.skip (F : Fin J m t D Bg Wk O dg ol x) (h : dg x = -1) : Fin J m t D Bg Wk O dg ol (x + 1) :=
  ⟨F.part, F.doing, F.openl, F.over, fun k hk hD hO => ⟨(F.left k hk hD hO).1, fun hx => by
    by_cases e : Wk k = x
    · have := (F.doing.at_ k hk hD hO).2
      rw [e, h] at this
      omega
    · exact (F.left k hk hD hO).2 (by omega)⟩, F.gone, F.last⟩

theorem Fin.later (F : Fin J m t D Bg Wk O dg ol x) {k : Nat} (h : dg x = k) (hk : k < J.n) (hD : D k = true) (hO : O k = false) (he : Bg k + J.gr.len k ≠ t) : Fin J m t D Bg Wk O dg ol (x + 1) :=
  ⟨F.part, F.doing, F.openl, F.over, fun j hj hDj hOj => ⟨(F.left j hj hDj hOj).1, fun hx => by
    by_cases e : Wk j = x
    · have h1 := (F.doing.at_ j hj hDj hOj).2
      rw [e, h] at h1
      obtain rfl : k = j := by omega
      have := (F.left k hk hD hO).1
      omega
    · exact (F.left j hj hDj hOj).2 (by omega)⟩, F.gone, F.last⟩

theorem Fin.over_ (F : Fin J m t D Bg Wk O dg ol x) {bh : Nat → List Nat} (hb : Beh J bh) {k : Nat} (h : dg x = k) (hk : k < J.n) (hD : D k = true) (hO : O k = false) (hW : Wk k = x) (he : Bg k + J.gr.len k = t) (ho : Ov (lfO J O) (bh k) nl) (ha : ∀ i, i < J.gr.n → ∀ a ∈ J.gr.aft i, a < J.gr.n) :
    Fin J m t D Bg Wk (Gr.put O k true) (Gr.put dg x (-1)) (ol ++ nl) (x + 1) ∧ ∀ y, y < J.n → lfO J (Gr.put O k true) y = lfO J O y - (bh k).count y := by
  have hlf : ∀ y, y < J.n → lfO J (Gr.put O k true) y = lfO J O y - (bh k).count y := by
    intro y hy
    have h1 := lf_put (J := J) hO y
    have h2 := hb.cnt k hk y
    rw [if_pos hy] at h2
    omega
  have hle : ∀ y, (bh k).count y ≤ lfO J O y := fun y => hb.le hk hO y
  have hnl : ∀ y ∈ nl, y < J.n := fun y hy => hb.lt hk (List.count_pos_iff.1 ((ho.mem y).1 hy).1)
  -- what has begun waits for none
  have hbeg : ∀ y, y < J.n → D y = true → lfO J O y = 0 := by
    intro y hy hDy
    rw [lf_zero']
    intro a hm
    have h1 := F.part.ready y hy hDy a hm
    have h2 := (F.part.at_ y hy hDy).2
    have h3 := ha y hy a hm
    cases hOa : O a with
    | true => rfl
    | false =>
      have := (F.left a h3 h1.1 hOa).1
      omega
  refine ⟨⟨F.part, ⟨fun y hy => ?_, fun j hj hDj hOj => ?_⟩, ⟨?_, fun y => ?_⟩, fun j hj hOj => ?_, fun j hj hDj hOj => ?_, F.gone, F.last⟩, hlf⟩
  · by_cases e : y = x
    · subst e; left; exact Gr.put_at ..
    · rw [Gr.put_ne _ _ e]
      rcases F.doing.some y hy with h1 | ⟨j, h1, h2, h3, h4, h5⟩
      · exact .inl h1
      · have e2 : j ≠ k := fun e2 => by subst e2; exact e (h5.symm.trans hW)
        exact .inr ⟨j, h1, h2, h3, by rw [Gr.put_ne _ _ e2]; exact h4, h5⟩
  · have e2 : j ≠ k := fun e2 => by subst e2; rw [Gr.put_at] at hOj; cases hOj
    rw [Gr.put_ne _ _ e2] at hOj
    obtain ⟨h1, h2⟩ := F.doing.at_ j hj hDj hOj
    have e3 : Wk j ≠ x := fun e3 => by rw [e3, h] at h2; omega
    exact ⟨h1, by rw [Gr.put_ne _ _ e3]; exact h2⟩
  · rw [List.nodup_append]
    refine ⟨F.openl.nd, ho.nd, ?_⟩
    intro a ha' b hb' e
    subst e
    have h1 := ((F.openl.mem a).1 ha').2.2
    have h2 := (ho.mem a).1 hb'
    omega
  · rw [List.mem_append, F.openl.mem y, ho.mem y]
    by_cases hy : y < J.n
    · rw [hlf y hy]
      have h1 := hle y
      constructor
      · rintro (⟨_, h2, h3⟩ | ⟨h2, h3⟩)
        · exact ⟨hy, h2, by omega⟩
        · refine ⟨hy, ?_, by omega⟩
          cases hDy : D y with
          | false => rfl
          | true => have := hbeg y hy hDy; omega
      · rintro ⟨_, h2, h3⟩
        by_cases h4 : lfO J O y = 0
        · exact .inl ⟨hy, h2, h4⟩
        · exact .inr ⟨by omega, by omega⟩
    · constructor
      · rintro (⟨h2, _⟩ | h2)
        · exact absurd h2 hy
        · exact absurd (hnl y ((ho.mem y).2 h2)) hy
      · rintro ⟨h2, _⟩
        exact absurd h2 hy
  · by_cases e : j = k
    · subst e; exact ⟨hD, by omega⟩
    · rw [Gr.put_ne _ _ e] at hOj
      exact F.over j hj hOj
  · have e2 : j ≠ k := fun e2 => by subst e2; rw [Gr.put_at] at hOj; cases hOj
    rw [Gr.put_ne _ _ e2] at hOj
    refine ⟨(F.left j hj hDj hOj).1, fun hx => ?_⟩
    by_cases e : Wk j = x
    · have h1 := (F.doing.at_ j hj hDj hOj).2
      rw [e, h] at h1
      omega
    · exact (F.left j hj hDj hOj).2 (by omega)

/-- While jobs begin: the workers below q are at work. -/
structure Bgn (J : Jb) (m t : Nat) (D : Nat → Bool) (Bg Wk : Nat → Nat) (O : Nat → Bool) (dg : Nat → Int) (ol : List Nat) (q : Nat) : Prop where
  part : Gr.Part J.gr J.urg m D Bg Wk t q
  doing : Doing J m D O Wk dg
  openl : Openl J D O ol
  over : IsOver J D Bg t O
  busy : ∀ y, y < q → y < m → dg y ≠ -1
  gone : t ≤ Gr.gone J.gr D Bg t
  last : t = 0 ∨ ∃ i, i < J.n ∧ D i = true ∧ Bg i + J.gr.len i = t

theorem Fin.bgn (F : Fin J m t D Bg Wk O dg ol m) : Bgn J m t D Bg Wk O dg ol 0 where
  part := F.part
  doing := F.doing
  openl := F.openl
  over i hi := by
    cases hO : O i with
    | true =>
      obtain ⟨h1, h2⟩ := F.over i hi hO
      rw [gr_len] at h2
      simp [h1, h2]
    | false =>
      cases hD : D i with
      | false => rfl
      | true =>
        have h1 := (F.left i hi hD hO).2 (F.doing.at_ i hi hD hO).1
        rw [gr_len] at h1
        simp
        omega
  busy y hy := by omega
  gone := F.gone
  last := F.last

variable {q : Nat}

/-- Who works at q goes on behind t. -/
theorem Bgn.runs (F : Bgn J m t D Bg Wk O dg ol q) {y : Nat} (hy : y < m) (h : dg y ≠ -1) : ∃ k : Nat, dg y = k ∧ k < J.n ∧ D k = true ∧ O k = false ∧ Wk k = y ∧ t < Bg k + J.gr.len k := by
  rcases F.doing.some y hy with h1 | ⟨k, h1, h2, h3, h4, h5⟩
  · exact absurd h1 h
  · have h6 := F.over k h2
    rw [h4, h3] at h6
    refine ⟨k, h1, h2, h3, h4, h5, ?_⟩
    rw [gr_len]
    simp at h6
    omega

theorem Bgn.upto (F : Bgn J m t D Bg Wk O dg ol q) : ∀ c, q ≤ c → c ≤ m → (∀ y, y < c → dg y ≠ -1) → Bgn J m t D Bg Wk O dg ol c := by
  intro c hqc
  induction c with
  | zero => intro _ _; obtain rfl : q = 0 := by omega
            exact F
  | succ c ih =>
    intro hc hb
    by_cases e : q = c + 1
    · subst e; exact F
    · have G := ih (by omega) (by omega) fun y hy => hb y (by omega)
      obtain ⟨k, h1, h2, h3, h4, h5, h6⟩ := G.runs (show c < m by omega) (hb c (by omega))
      exact ⟨G.part.skip h2 h3 h5 h6, G.doing, G.openl, G.over, fun y hy _ => hb y hy, G.gone, G.last⟩

theorem Bgn.ready (hR : J.Right) (F : Bgn J m t D Bg Wk O dg ol q) {i : Nat} (hi : i < J.n) (hD : D i = false) : i ∈ ol ↔ Gr.readyD J.gr D Bg i t := by
  rw [F.openl.mem i, lf_zero, ready_iff hR F.over hi]
  exact ⟨fun h => h.2.2, fun h => ⟨hi, hD, h⟩⟩

/-- None is left to begin. -/
theorem Bgn.none (hR : J.Right) (F : Bgn J m t D Bg Wk O dg [] q) (hq : q ≤ m) : Gr.Part J.gr J.urg m D Bg Wk t m :=
  F.part.none (fun i hi hD hr => by have := (F.ready hR hi hD).2 hr; cases this) m hq

/-- One begins. -/
theorem Bgn.begins (hR : J.Right) (F : Bgn J m t D Bg Wk O dg ol q) {c b : Nat} (hc : c < m) (hfree : dg c = -1) (hbusy : ∀ y, y < c → dg y ≠ -1) (hb : b ∈ ol) (hbest : ∀ i ∈ ol, i ≠ b → Gr.better J.urg b i) {ol' : List Nat} (hnd : ol'.Nodup) (hol : ∀ i, i ∈ ol' ↔ i ∈ ol ∧ i ≠ b) :
    Bgn J m t (Gr.put D b true) (Gr.put Bg b t) (Gr.put Wk b c) O (Gr.put dg c b) ol' (c + 1) := by
  have hqc : q ≤ c := by
    rcases Nat.lt_or_ge c q with h | h
    · exact absurd hfree (F.busy c h hc)
    · exact h
  have G := F.upto c hqc (by omega) hbusy
  obtain ⟨hbn, hbD, hbl⟩ := (F.openl.mem b).1 hb
  have hOb : O b = false := by
    have := F.over b hbn
    rw [hbD] at this
    simpa using this
  have hlb := (hR.len b hbn).1
  refine ⟨G.part.begins (right_len hR) hc (fun k hk hD hW => ?_) hbn hbD ((F.ready hR hbn hbD).1 hb) (fun i hi hD hr hne => hbest i ((F.ready hR hi hD).2 hr) hne), ⟨fun y hy => ?_, fun k hk hD hO => ?_⟩, ⟨hnd, fun i => ?_⟩, fun i hi => ?_, fun y hy hym => ?_, ?_, ?_⟩
  · have h1 := F.over k hk
    rw [hD] at h1
    cases hO : O k with
    | true => rw [hO] at h1; simp at h1; rw [gr_len]; omega
    | false =>
      have := (F.doing.at_ k hk hD hO).2
      rw [hW, hfree] at this
      omega
  · by_cases e : y = c
    · subst e
      exact .inr ⟨b, Gr.put_at .., hbn, Gr.put_at .., hOb, Gr.put_at ..⟩
    · rw [Gr.put_ne _ _ e]
      rcases F.doing.some y hy with h1 | ⟨k, h1, h2, h3, h4, h5⟩
      · exact .inl h1
      · have e2 : k ≠ b := fun e2 => by subst e2; rw [hbD] at h3; cases h3
        exact .inr ⟨k, h1, h2, by rw [Gr.put_ne _ _ e2]; exact h3, h4, by rw [Gr.put_ne _ _ e2]; exact h5⟩
  · by_cases e : k = b
    · subst e
      rw [Gr.put_at]
      exact ⟨hc, Gr.put_at ..⟩
    · rw [Gr.put_ne _ _ e] at hD
      rw [Gr.put_ne _ _ e]
      obtain ⟨h1, h2⟩ := F.doing.at_ k hk hD hO
      have e2 : Wk k ≠ c := fun e2 => by rw [e2, hfree] at h2; omega
      exact ⟨h1, by rw [Gr.put_ne _ _ e2]; exact h2⟩
  · rw [hol i, F.openl.mem i]
    by_cases e : i = b
    · subst e
      rw [Gr.put_at]
      simp
    · rw [Gr.put_ne _ _ e]
      simp [e]
  · by_cases e : i = b
    · subst e
      rw [Gr.put_at, Gr.put_at, hOb]
      simp
      omega
    · rw [Gr.put_ne _ _ e, Gr.put_ne _ _ e]; exact F.over i hi
  · by_cases e : y = c
    · subst e; rw [Gr.put_at]; omega
    · rw [Gr.put_ne _ _ e]; exact hbusy y (by omega)
  · rw [Gr.gone_begins hbD]; exact F.gone
  · rcases F.last with h | ⟨i, hi, h1, h2⟩
    · exact .inl h
    · have e : i ≠ b := fun e => by subst e; rw [hbD] at h1; cases h1
      exact .inr ⟨i, hi, by rw [Gr.put_ne _ _ e]; exact h1, by rw [Gr.put_ne _ _ e]; exact h2⟩

/-- Behind the begins: all is settled at t. -/
structure Set_ (J : Jb) (m t : Nat) (D : Nat → Bool) (Bg Wk : Nat → Nat) (O : Nat → Bool) (dg : Nat → Int) (ol : List Nat) : Prop where
  part : Gr.Part J.gr J.urg m D Bg Wk t m
  doing : Doing J m D O Wk dg
  openl : Openl J D O ol
  over : IsOver J D Bg t O
  gone : t ≤ Gr.gone J.gr D Bg t
  last : t = 0 ∨ ∃ i, i < J.n ∧ D i = true ∧ Bg i + J.gr.len i = t

theorem Bgn.set_none (hR : J.Right) (F : Bgn J m t D Bg Wk O dg [] q) (hq : q ≤ m) : Set_ J m t D Bg Wk O dg [] := ⟨F.none hR hq, F.doing, F.openl, F.over, F.gone, F.last⟩
theorem Bgn.set_all (F : Bgn J m t D Bg Wk O dg ol q) (hq : q ≤ m) (hb : ∀ y, y < m → dg y ≠ -1) : Set_ J m t D Bg Wk O dg ol := ⟨(F.upto m hq (Nat.le_refl _) hb).part, F.doing, F.openl, F.over, F.gone, F.last⟩

theorem Set_.open_ (F : Set_ J m t D Bg Wk O dg ol) {k : Nat} (hk : k < J.n) (hD : D k = true) : (O k = false ↔ t < Bg k + J.gr.len k) := by
  have h := F.over k hk
  rw [hD, Bool.true_and] at h
  rw [h, gr_len, decide_eq_false_iff_not]
  omega

/-- The next end. -/
theorem Set_.next (hR : J.Right) (F : Set_ J m t D Bg Wk O dg ol) {x k : Nat} (hx : x < m) (h : dg x = k) (hmin : ∀ y j : Nat, y < m → dg y = j → Bg k + J.gr.len k ≤ Bg j + J.gr.len j) :
    Fin J m (Bg k + J.gr.len k) D Bg Wk O dg ol 0 ∧ t < Bg k + J.gr.len k ∧ Bg k + J.gr.len k ≤ Gr.sumN J.gr.len J.gr.n := by
  rcases F.doing.some x hx with h1 | ⟨k', h1, hk, hD, hO, hW⟩
  · omega
  · obtain rfl : k = k' := by omega
    have hlt := (F.open_ hk hD).1 hO
    have hB := (F.part.at_ k hk hD).2
    have hno : ∀ j, j < J.n → D j = true → Bg j + J.gr.len j ≤ t ∨ Bg k + J.gr.len k ≤ Bg j + J.gr.len j := by
      intro j hj hDj
      cases hOj : O j with
      | true =>
        left
        rcases Nat.lt_or_ge t (Bg j + J.gr.len j) with h2 | h2
        · rw [(F.open_ hj hDj).2 h2] at hOj; cases hOj
        · exact h2
      | false =>
        right
        obtain ⟨h2, h3⟩ := F.doing.at_ j hj hDj hOj
        exact hmin (Wk j) j h2 h3
    have hg : Gr.gone J.gr D Bg t + (Bg k + J.gr.len k - t) ≤ Gr.gone J.gr D Bg (Bg k + J.gr.len k) := by
      have := Gr.gone_jump (J := J.gr) (D := D) (B := Bg) (t := t) hk hD (by omega) (Bg k + J.gr.len k - t) (by omega)
      rw [show t + (Bg k + J.gr.len k - t) = Bg k + J.gr.len k by omega] at this
      exact this
    have h0 := F.gone
    have hg2 := Gr.gone_le J.gr D Bg (Bg k + J.gr.len k)
    refine ⟨⟨F.part.jump hlt hno (right_aft hR), F.doing, F.openl, fun j hj hOj => ?_, fun j hj hDj hOj => ⟨?_, fun h => by omega⟩, by omega, .inr ⟨k, hk, hD, rfl⟩⟩, hlt, by omega⟩
    · have h2 := F.over j hj
      rw [hOj] at h2
      cases hDj : D j with
      | false => rw [hDj] at h2; cases h2
      | true =>
        rcases hno j hj hDj with h3 | h3
        · exact ⟨rfl, by omega⟩
        · exfalso
          have := (F.open_ hj hDj).2 (by omega)
          rw [this] at hOj
          cases hOj
    · rcases hno j hj hDj with h3 | h3
      · have := (F.open_ hj hDj).1 hOj; omega
      · exact h3

/-- Nobody works: all is done. -/
theorem Set_.end_ (hR : J.Right) (hA : J.Acyc) (hm : 1 ≤ m) (F : Set_ J m t D Bg Wk O dg ol) (h : ∀ x, x < m → dg x = -1) :
    Gr.Ruled J.gr J.urg m Bg Wk ∧ (∀ i, i < J.n → Bg i + J.gr.len i ≤ t) ∧ (t = 0 ∨ ∃ i, i < J.n ∧ Bg i + J.gr.len i = t) := by
  obtain ⟨r, hr⟩ := hA
  have none : ∀ k, k < J.n → D k = true → ¬ t < Bg k + J.gr.len k := fun k hk hD hlt => by
    obtain ⟨h1, h2⟩ := F.doing.at_ k hk hD ((F.open_ hk hD).2 hlt)
    rw [h _ h1] at h2
    omega
  have all : ∀ i, i < J.n → D i = true := by
    intro i hi
    cases hD : D i with
    | true => rfl
    | false =>
      exfalso
      obtain ⟨k, hk, h1, _, h3⟩ := F.part.runs (r := r) (D0 := fun i => D i && decide (Bg i < t)) (fun i hi a ha => by
        obtain ⟨x, hx, rfl⟩ := List.mem_map.1 ha
        exact ⟨right_aft hR i hi _ ha, (hr i hi).2 x hx⟩) (right_len hR) hm (fun i hi h0 h1 => by
          have h2 := (F.part.at_ i hi h1).2
          rw [h1, Bool.true_and, decide_eq_false_iff_not] at h0
          omega) (fun i h0 => by
          cases hDi : D i with
          | true => rfl
          | false => rw [hDi] at h0; cases h0) ⟨i, hi, by rw [hD]; rfl⟩
      exact none k hk h1 h3
  refine ⟨F.part.ruled (right_aft hR) all, fun i hi => Nat.le_of_not_lt (none i hi (all i hi)), ?_⟩
  rcases F.last with h1 | ⟨i, hi, _, h2⟩
  · exact .inl h1
  · exact .inr ⟨i, hi, h2⟩
end

#print axioms Fin.over_
#print axioms Bgn.begins
#print axioms Set_.next
#print axioms Set_.end_
end Go.Proofs.Ytgmemndjclhheae
