/-
  OUR OWN TEXT. The document's plan: what is held of memory and of the plan while it is made.
-/
import Derived.Test.YtgmemndjclhheaeSmall
namespace Go.Proofs.Ytgmemndjclhheae
open Go.RowKit

/-- What lies in the row of slots. -/
def slotF (Bg Wk : Nat → Nat) (c : Nat) : Value := .int .i64 (if c % 2 = 0 then Bg (c / 2) else Wk (c / 2) : Nat)

theorem slotF_even (Bg Wk : Nat → Nat) (i : Nat) : slotF Bg Wk (i * 2) = .int .i64 (Bg i) := by
  unfold slotF
  rw [if_pos (by omega), Nat.mul_div_cancel _ (by omega)]
theorem slotF_odd (Bg Wk : Nat → Nat) (i : Nat) : slotF Bg Wk (i * 2 + 1) = .int .i64 (Wk i) := by
  unfold slotF
  rw [if_neg (by omega), show (i * 2 + 1) / 2 = i by omega]

theorem slotF_put (Bg Wk : Nat → Nat) (b x y c : Nat) : (if c = b * 2 + 1 then .int .i64 (y : Int) else if c = b * 2 then .int .i64 (x : Int) else slotF Bg Wk c) = slotF (Gr.put Bg b x) (Gr.put Wk b y) c := by
  by_cases h1 : c = b * 2 + 1
  · subst h1
    rw [if_pos rfl, slotF_odd, Gr.put_at]
  · by_cases h2 : c = b * 2
    · subst h2
      rw [if_neg h1, if_pos rfl, slotF_even, Gr.put_at]
    · rw [if_neg h1, if_neg h2]
      unfold slotF
      have h3 : c / 2 ≠ b := by omega
      rw [Gr.put_ne _ _ h3, Gr.put_ne _ _ h3]

/-- Memory while a plan is made: slots in block go, who has begun in gb, until when each worker is at work in gu. -/
structure PMem (w : World) (J : Jb) (go gb gu : Nat) (D : Nat → Bool) (Bg Wk U : Nat → Nat) (wr : World) : Prop where
  low : Below w.heap.size w wr
  out : wr.rowIs go 53 (J.n * 2) (slotF Bg Wk)
  begun : wr.rowIs gb 4 J.n (fun i => .bool (D i))
  til : wr.rowIs gu 94 16 (fun i => .int .i64 (U i))
  hgo : w.heap.size ≤ go
  hgb : w.heap.size ≤ gb
  hgu : w.heap.size ≤ gu
  ne1 : go ≠ gb
  ne2 : go ≠ gu
  ne3 : gb ≠ gu

theorem PMem.keep {w : World} {J : Jb} {go gb gu : Nat} {D : Nat → Bool} {Bg Wk U : Nat → Nat} {wr wr' : World} (h : PMem w J go gb gu D Bg Wk U wr) (hb : Below wr.heap.size wr wr') : PMem w J go gb gu D Bg Wk U wr' where
  low := h.low.trans (hb.mono h.low.size)
  out := h.out.of_block (hb.block go h.out.lt)
  begun := h.begun.of_block (hb.block gb h.begun.lt)
  til := h.til.of_block (hb.block gu h.til.lt)
  hgo := h.hgo
  hgb := h.hgb
  hgu := h.hgu
  ne1 := h.ne1
  ne2 := h.ne2
  ne3 := h.ne3

theorem PMem.keepAt {w : World} {J : Jb} {go gb gu : Nat} {D : Nat → Bool} {Bg Wk U : Nat → Nat} {wr wr' : World} (h : PMem w J go gb gu D Bg Wk U wr) {x : Nat} (hx1 : w.heap.size ≤ x) (hgo : go < x) (hgb : gb < x) (hgu : gu < x) (hb : Below x wr wr') : PMem w J go gb gu D Bg Wk U wr' where
  low := h.low.trans (hb.mono hx1)
  out := h.out.of_block (hb.block go hgo)
  begun := h.begun.of_block (hb.block gb hgb)
  til := h.til.of_block (hb.block gu hgu)
  hgo := h.hgo
  hgb := h.hgb
  hgu := h.hgu
  ne1 := h.ne1
  ne2 := h.ne2
  ne3 := h.ne3

theorem pmem_start (w w1 : World) (J : Jb) (hb : Below w.heap.size w w1) :
    PMem w J w1.heap.size (w1.heap.size + 1) (w1.heap.size + 1 + 1) (fun _ => false) (fun _ => 0) (fun _ => 0) (fun _ => 0)
      (((w1.alloc (.cells (madeCells #[.int .i64 0, .int .i64 0] (J.n * 2)) 53)).alloc (.cells (madeCells #[.bool false] J.n) 4)).alloc
        (.cells #[.int .i64 0, .int .i64 0, .int .i64 0, .int .i64 0, .int .i64 0, .int .i64 0, .int .i64 0, .int .i64 0, .int .i64 0, .int .i64 0, .int .i64 0, .int .i64 0, .int .i64 0, .int .i64 0, .int .i64 0, .int .i64 0] 94)) where
  low := ((hb.alloc hb.size _).alloc (by have := hb.size; simp; omega) _).alloc (by have := hb.size; simp; omega) _
  out := by
    have h : (w1.alloc (.cells (madeCells #[.int .i64 0, .int .i64 0] (J.n * 2)) 53)).rowIs w1.heap.size 53 (J.n * 2) (slotF (fun _ => 0) (fun _ => 0)) := by
      have := World.rowIs_alloc w1 (madeCells #[.int .i64 0, .int .i64 0] (J.n * 2)) 53 (slotF (fun _ => 0) (fun _ => 0)) (by
        intro i hi
        rw [size_madeCells] at hi
        have e : slotF (fun _ => 0) (fun _ => 0) i = .int .i64 0 := by unfold slotF; split <;> rfl
        rw [e]
        rcases Nat.mod_two_eq_zero_or_one i with h | h <;> simp [madeCells, hi, h])
      rw [size_madeCells] at this
      exact this
    exact (h.alloc _).alloc _
  begun := by
    have h := World.rowIs_made (w1.alloc (.cells (madeCells #[.int .i64 0, .int .i64 0] (J.n * 2)) 53)) (.bool false) J.n 4
    have e : (w1.alloc (.cells (madeCells #[.int .i64 0, .int .i64 0] (J.n * 2)) 53)).heap.size = w1.heap.size + 1 := by simp
    rw [e] at h
    exact h.alloc _
  til := by
    have h := World.rowIs_alloc ((w1.alloc (.cells (madeCells #[.int .i64 0, .int .i64 0] (J.n * 2)) 53)).alloc (.cells (madeCells #[.bool false] J.n) 4))
      #[.int .i64 0, .int .i64 0, .int .i64 0, .int .i64 0, .int .i64 0, .int .i64 0, .int .i64 0, .int .i64 0, .int .i64 0, .int .i64 0, .int .i64 0, .int .i64 0, .int .i64 0, .int .i64 0, .int .i64 0, .int .i64 0] 94 (fun _ => .int .i64 ((0 : Nat) : Int)) (by
        intro i hi
        have hi' : i < 16 := hi
        rcases (show i = 0 ∨ i = 1 ∨ i = 2 ∨ i = 3 ∨ i = 4 ∨ i = 5 ∨ i = 6 ∨ i = 7 ∨ i = 8 ∨ i = 9 ∨ i = 10 ∨ i = 11 ∨ i = 12 ∨ i = 13 ∨ i = 14 ∨ i = 15 by omega) with rfl | rfl | rfl | rfl | rfl | rfl | rfl | rfl | rfl | rfl | rfl | rfl | rfl | rfl | rfl | rfl <;> rfl)
    have e : ((w1.alloc (.cells (madeCells #[.int .i64 0, .int .i64 0] (J.n * 2)) 53)).alloc (.cells (madeCells #[.bool false] J.n) 4)).heap.size = w1.heap.size + 1 + 1 := by simp
    rw [e] at h
    exact h
  hgo := hb.size
  hgb := by have := hb.size; omega
  hgu := by have := hb.size; omega
  ne1 := by omega
  ne2 := by omega
  ne3 := by omega

/-- How many have not begun. -/
def undone (J : Jb) (D : Nat → Bool) : Nat := Gr.sumN (fun i => Gr.one (D i = false)) J.n

theorem undone_all (J : Jb) : undone J (fun _ => false) = J.n := by
  unfold undone
  have : ∀ k, Gr.sumN (fun _ => Gr.one (false = false)) k = k := by
    intro k
    induction k with
    | zero => rfl
    | succ k ih => show Gr.sumN _ k + Gr.one (false = false) = k + 1; rw [ih]; rfl
  exact this _

theorem undone_zero {J : Jb} {D : Nat → Bool} (h : undone J D = 0) (i : Nat) (hi : i < J.n) : D i = true := by
  cases hd : D i with
  | true => rfl
  | false =>
    have := Gr.sumN_ge (f := fun i => Gr.one (D i = false)) hi
    have h1 : Gr.one (D i = false) = 1 := Gr.one_pos hd
    unfold undone at h
    omega

theorem undone_pos {J : Jb} {D : Nat → Bool} (h : 0 < undone J D) : ∃ i, i < J.n ∧ D i = false := by
  rcases Classical.em (∃ i, i < J.n ∧ D i = false) with h1 | h1
  · exact h1
  · exfalso
    have : undone J D = 0 := Gr.sumN_none fun i hi => Gr.one_neg fun hd => h1 ⟨i, hi, hd⟩
    omega

theorem undone_put {J : Jb} {D : Nat → Bool} {b : Nat} (hb : b < J.n) (hD : D b = false) : undone J (Gr.put D b true) + 1 = undone J D := by
  have gen : ∀ k, (b < k → Gr.sumN (fun i => Gr.one (Gr.put D b true i = false)) k + 1 = Gr.sumN (fun i => Gr.one (D i = false)) k) ∧ (k ≤ b → Gr.sumN (fun i => Gr.one (Gr.put D b true i = false)) k = Gr.sumN (fun i => Gr.one (D i = false)) k) := by
    intro k
    induction k with
    | zero => exact ⟨fun h => by omega, fun _ => rfl⟩
    | succ k ih =>
      refine ⟨fun h => ?_, fun h => ?_⟩
      · simp only [Gr.sumN]
        rcases Nat.lt_or_ge b k with h1 | h1
        · have e : k ≠ b := by omega
          rw [Gr.put_ne _ _ e]
          have := ih.1 h1
          omega
        · have e : k = b := by omega
          subst e
          rw [ih.2 (Nat.le_refl _), Gr.put_at, Gr.one_neg (by simp), Gr.one_pos hD]
      · simp only [Gr.sumN]
        have e : k ≠ b := by omega
        rw [Gr.put_ne _ _ e, ih.2 (by omega)]
  exact (gen J.n).1 hb

theorem undone_le (J : Jb) (D : Nat → Bool) : undone J D ≤ J.n := by
  have : undone J D ≤ Gr.sumN (fun _ => 1) J.n := Gr.sumN_le fun i _ => Gr.one_le _
  rw [Gr.sumN_const] at this
  omega

/-- What is held of the plan, all settled below time t, and at t below worker q. -/
structure PT (J : Jb) (m : Nat) (D : Nat → Bool) (Bg Wk U : Nat → Nat) (E t q : Nat) : Prop where
  part : Gr.Part J.gr J.urg m D Bg Wk t q
  til : Gr.Until J.gr D Bg Wk U
  ends : Gr.Ends J.gr D Bg E
  gone : t ≤ Gr.gone J.gr D Bg t

theorem pt_start (J : Jb) (m : Nat) : PT J m (fun _ => false) (fun _ => 0) (fun _ => 0) (fun _ => 0) 0 0 0 :=
  ⟨Gr.part_start _ fun _ _ => rfl, Gr.until_start fun _ _ => rfl, Gr.ends_start fun _ _ => rfl, Nat.zero_le _⟩

section
variable {J : Jb} {m : Nat} {D D0 : Nat → Bool} {Bg Wk U : Nat → Nat} {E t q : Nat} {O : Nat → Bool}

theorem gr_len (J : Jb) (i : Nat) : J.gr.len i = (J.len i).toNat := rfl

theorem right_len (R : J.Right) : ∀ i, i < J.gr.n → 1 ≤ J.gr.len i := fun i hi => by have := R.len i hi; rw [gr_len]; omega
theorem right_aft (R : J.Right) : ∀ i, i < J.gr.n → ∀ a ∈ J.gr.aft i, a < J.gr.n := fun i hi a ha => by
  obtain ⟨x, hx, rfl⟩ := List.mem_map.1 ha
  have := R.aft i hi x hx
  show x.toNat < J.n
  omega

theorem PT.bounds (P : PT J m D Bg Wk U E t q) (R : J.Right) : E ≤ t + 1000 ∧ ∀ x, U x ≤ t + 1000 := by
  have one : ∀ k, k < J.n → D k = true → Bg k + J.gr.len k ≤ t + 1000 := by
    intro k hk hD
    have h1 := (P.part.at_ k hk hD).2
    have h2 := R.len k hk
    rw [gr_len]
    omega
  refine ⟨?_, fun x => ?_⟩
  · rcases P.ends.some with h | ⟨k, hk, h1, h2⟩
    · omega
    · have := one k hk h1; omega
  · rcases P.til.some x with h | ⟨k, hk, h1, _, h2⟩
    · omega
    · have := one k hk h1; omega

/-- Who is over. -/
def IsOver (J : Jb) (D : Nat → Bool) (Bg : Nat → Nat) (t : Nat) (O : Nat → Bool) : Prop := ∀ i, i < J.n → O i = (D i && decide (Bg i + (J.len i).toNat ≤ t))

theorem ready_iff (R : J.Right) (hO : IsOver J D Bg t O) {i : Nat} (hi : i < J.n) : adB O (J.aft i) = true ↔ Gr.readyD J.gr D Bg i t := by
  unfold adB
  rw [List.all_eq_true]
  constructor
  · intro h a ha
    obtain ⟨x, hx, rfl⟩ := List.mem_map.1 ha
    have h1 := h x hx
    have h2 := R.aft i hi x hx
    rw [hO x.toNat (by omega)] at h1
    show D x.toNat = true ∧ Bg x.toNat + (J.len x.toNat).toNat ≤ t
    simpa using h1
  · intro h x hx
    have h1 : D x.toNat = true ∧ Bg x.toNat + (J.len x.toNat).toNat ≤ t := h x.toNat (List.mem_map_of_mem hx)
    have h2 := R.aft i hi x hx
    rw [hO x.toNat (by omega)]
    simpa using h1

/-- One that may begin. -/
def cand (J : Jb) (D O : Nat → Bool) (i : Nat) : Prop := D i = false ∧ adB O (J.aft i) = true

/-- The best of the first k. -/
def BestTo (J : Jb) (D O : Nat → Bool) (k : Nat) (b : Int) : Prop := (b = -1 ∧ ∀ i, i < k → ¬ cand J D O i) ∨ ∃ c : Nat, b = c ∧ c < k ∧ cand J D O c ∧ ∀ i, i < k → cand J D O i → i ≠ c → Gr.better J.urg c i

theorem best_start : BestTo J D O 0 (-1) := .inl ⟨rfl, fun i hi => by omega⟩
theorem best_same {k : Nat} {b : Int} (h : BestTo J D O k b) (hn : ¬ cand J D O k) : BestTo J D O (k + 1) b := by
  rcases h with ⟨h1, h2⟩ | ⟨c, h1, h2, h3, h4⟩
  · refine .inl ⟨h1, fun i hi => ?_⟩
    rcases Nat.lt_succ_iff_lt_or_eq.1 hi with h | rfl
    · exact h2 i h
    · exact hn
  · refine .inr ⟨c, h1, by omega, h3, fun i hi hc => ?_⟩
    rcases Nat.lt_succ_iff_lt_or_eq.1 hi with h | rfl
    · exact h4 i h hc
    · exact absurd hc hn
theorem best_first {k : Nat} (h : BestTo J D O k (-1)) (hc : cand J D O k) : BestTo J D O (k + 1) k := by
  rcases h with ⟨_, h2⟩ | ⟨c, h1, _⟩
  · refine .inr ⟨k, rfl, by omega, hc, fun i hi hci hne => ?_⟩
    exact absurd hci (h2 i (by omega))
  · omega
theorem best_more {k c : Nat} (h : BestTo J D O k c) (hc : cand J D O k) (hu : J.urg c < J.urg k) : BestTo J D O (k + 1) k := by
  rcases h with ⟨h1, _⟩ | ⟨c', h1, h2, h3, h4⟩
  · omega
  · obtain rfl : c = c' := by omega
    refine .inr ⟨k, rfl, by omega, hc, fun i hi hci hne => ?_⟩
    by_cases e : i = c
    · subst e; exact .inl hu
    · have := h4 i (by omega) hci e
      unfold Gr.better at *
      omega
theorem best_less {k c : Nat} (h : BestTo J D O k c) (hu : ¬ J.urg c < J.urg k) : BestTo J D O (k + 1) c := by
  rcases h with ⟨h1, _⟩ | ⟨c', h1, h2, h3, h4⟩
  · omega
  · obtain rfl : c = c' := by omega
    refine .inr ⟨c, rfl, by omega, h3, fun i hi hci hne => ?_⟩
    rcases Nat.lt_succ_iff_lt_or_eq.1 hi with h | rfl
    · exact h4 i h hci hne
    · unfold Gr.better
      omega
theorem best_le {k : Nat} {b : Int} (h : BestTo J D O k b) : b = -1 ∨ ∃ c : Nat, b = c ∧ c < k := by
  rcases h with ⟨h1, _⟩ | ⟨c, h1, h2, _⟩
  · exact .inl h1
  · exact .inr ⟨c, h1, h2⟩

/-- A worker that is at work. -/
theorem pt_skip (P : PT J m D Bg Wk U E t q) (h : t < U q) : PT J m D Bg Wk U E t (q + 1) := by
  rcases P.til.some q with h1 | ⟨k, hk, h1, h2, h3⟩
  · omega
  · exact ⟨P.part.skip hk h1 h2 (by omega), P.til, P.ends, P.gone⟩

/-- What is held while workers take jobs at time t: D0 had begun ahead of t; O: who was over. -/
structure PW (J : Jb) (m : Nat) (D0 O D : Nat → Bool) (Bg Wk U : Nat → Nat) (E t q : Nat) : Prop where
  pt : PT J m D Bg Wk U E t q
  over : IsOver J D Bg t O
  hold : ∀ i, i < J.n → D0 i = false → D i = true → Bg i = t
  go : ∀ i, D0 i = true → D i = true

theorem pw_start (P : PT J m D Bg Wk U E t 0) (hO : IsOver J D Bg t O) : PW J m D O D Bg Wk U E t 0 :=
  ⟨P, hO, fun i _ h h' => (by rw [h] at h'; cases h'), fun _ h => h⟩
theorem pw_skip (P : PW J m D0 O D Bg Wk U E t q) (h : t < U q) : PW J m D0 O D Bg Wk U E t (q + 1) := ⟨pt_skip P.pt h, P.over, P.hold, P.go⟩

theorem pw_begin (R : J.Right) (P : PW J m D0 O D Bg Wk U E t q) (hq : q < m) (hU : U q ≤ t) {c : Nat} (hb : BestTo J D O J.n c) :
    PW J m D0 O (Gr.put D c true) (Gr.put Bg c t) (Gr.put Wk c q) (Gr.put U q (t + (J.len c).toNat)) (max E (t + (J.len c).toNat)) t (q + 1) ∧ undone J (Gr.put D c true) + 1 = undone J D := by
  rcases hb with ⟨h1, _⟩ | ⟨c', h1, hcn, ⟨hcD, hcr⟩, hbest⟩
  · omega
  · obtain rfl : c = c' := by omega
    have hrd := (ready_iff R P.over hcn).1 hcr
    refine ⟨⟨⟨P.pt.part.begins (right_len R) hq (fun k hk hD hW => ?_) hcn hcD hrd (fun i hi hD hr hne => hbest i hi ⟨hD, (ready_iff R P.over hi).2 hr⟩ hne), P.pt.til.begins hcn hcD hU, P.pt.ends.begins hcn hcD, by rw [Gr.gone_begins hcD]; exact P.pt.gone⟩, fun i hi => ?_, fun i hi h0 h1 => ?_, fun i h => ?_⟩, undone_put hcn hcD⟩
    · have := P.pt.til.most k hk hD
      rw [hW] at this
      omega
    · by_cases e : i = c
      · subst e
        have h2 := P.over i hi
        rw [hcD] at h2
        have h3 := (R.len i hi).1
        rw [Gr.put_at, Gr.put_at, h2]
        simp
        omega
      · rw [Gr.put_ne _ _ e, Gr.put_ne _ _ e]; exact P.over i hi
    · by_cases e : i = c
      · subst e; exact Gr.put_at ..
      · rw [Gr.put_ne _ _ e] at h1 ⊢
        exact P.hold i hi h0 h1
    · by_cases e : i = c
      · subst e; exact Gr.put_at ..
      · rw [Gr.put_ne _ _ e]; exact P.go i h

theorem pw_none (R : J.Right) (P : PW J m D0 O D Bg Wk U E t q) (hq : q ≤ m) (hb : BestTo J D O J.n (-1)) : PW J m D0 O D Bg Wk U E t m := by
  rcases hb with ⟨_, h2⟩ | ⟨c, h1, _⟩
  · exact ⟨⟨P.pt.part.none (fun i hi hD hr => h2 i hi ⟨hD, (ready_iff R P.over hi).2 hr⟩) m hq, P.pt.til, P.pt.ends, P.pt.gone⟩, P.over, P.hold, P.go⟩
  · omega

/-- A rank by which what comes ahead is lower. -/
def Jb.Acyc (J : Jb) : Prop := ∃ r : Nat → Nat, ∀ i, i < J.n → r i < J.n ∧ ∀ a ∈ J.aft i, r a.toNat < r i

theorem pw_next (R : J.Right) (hA : J.Acyc) (hm : 1 ≤ m) (P : PW J m D0 O D Bg Wk U E t m) (h0 : 0 < undone J D0) : PT J m D Bg Wk U E (t + 1) 0 := by
  obtain ⟨r, hr⟩ := hA
  obtain ⟨k, hk, h1, h2, h3⟩ := P.pt.part.runs (r := r) (fun i hi a ha => by
    obtain ⟨x, hx, rfl⟩ := List.mem_map.1 ha
    exact ⟨right_aft R i hi _ ha, (hr i hi).2 x hx⟩) (right_len R) hm P.hold P.go (undone_pos h0)
  have h4 := Gr.gone_step hk h1 h2 h3
  have h5 := P.pt.gone
  exact ⟨P.pt.part.next, P.pt.til, P.pt.ends, by omega⟩

/-- While one has not begun, less time has gone by than there is work. -/
theorem pt_time (R : J.Right) (P : PT J m D Bg Wk U E t q) (h0 : 0 < undone J D) : t < Gr.sumN J.gr.len J.gr.n := by
  obtain ⟨i, hi, hD⟩ := undone_pos h0
  have h1 := Gr.gone_lt (B := Bg) (t := t) (right_len R) hi hD
  have h2 := P.gone
  omega

theorem work_total (R : J.Right) : Gr.sumN J.gr.len J.gr.n ≤ 200000 := by
  have : Gr.sumN J.gr.len J.gr.n ≤ Gr.sumN (fun _ => 1000) J.gr.n := Gr.sumN_le fun i hi => by
    have := (R.len i hi).2
    rw [gr_len]
    omega
  rw [Gr.sumN_const] at this
  have h := R.few
  have hn : J.gr.n = J.n := rfl
  rw [hn] at this ⊢
  omega

/-- All have begun. -/
theorem pt_end (R : J.Right) (P : PT J m D Bg Wk U E t q) (h0 : undone J D = 0) : Gr.Ruled J.gr J.urg m Bg Wk ∧ (∀ i, i < J.n → Bg i + J.gr.len i ≤ E) ∧ (E = 0 ∨ ∃ i, i < J.n ∧ Bg i + J.gr.len i = E) := by
  have all := undone_zero h0
  refine ⟨P.part.ruled (right_aft R) all, fun i hi => P.ends.most i hi (all i hi), ?_⟩
  rcases P.ends.some with h | ⟨k, hk, _, h⟩
  · exact .inl h
  · exact .inr ⟨k, hk, h⟩
end

#print axioms pw_begin
#print axioms pw_next
#print axioms pmem_start
end Go.Proofs.Ytgmemndjclhheae
