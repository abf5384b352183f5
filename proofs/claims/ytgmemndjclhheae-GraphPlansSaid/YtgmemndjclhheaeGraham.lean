/-
  OUR OWN TEXT, PLAIN (it imports nothing of a program). GRAHAM's BOUND for jobs that hang on others: a plan in which no worker rests while a job can begin is at least the span, at least work by workers, and workers times it is at most work and workers - 1 spans.
-/
namespace Gr

/-- The sum of the first k. -/
def sumN (f : Nat → Nat) : Nat → Nat
  | 0 => 0
  | k + 1 => sumN f k + f k

theorem sumN_le {f g : Nat → Nat} : ∀ {k : Nat}, (∀ i, i < k → f i ≤ g i) → sumN f k ≤ sumN g k
  | 0, _ => Nat.le_refl _
  | k + 1, h => Nat.add_le_add (sumN_le fun i hi => h i (by omega)) (h k (by omega))

theorem sumN_congr {f g : Nat → Nat} : ∀ {k : Nat}, (∀ i, i < k → f i = g i) → sumN f k = sumN g k
  | 0, _ => rfl
  | k + 1, h => by simp only [sumN]; rw [sumN_congr fun i hi => h i (by omega), h k (by omega)]

theorem sumN_add (f g : Nat → Nat) : ∀ k, sumN (fun i => f i + g i) k = sumN f k + sumN g k
  | 0 => rfl
  | k + 1 => by simp only [sumN, sumN_add f g k]; omega

theorem sumN_const (c : Nat) : ∀ k, sumN (fun _ => c) k = c * k
  | 0 => rfl
  | k + 1 => by simp only [sumN, sumN_const c k]; rw [Nat.mul_succ]

theorem sumN_mul (c : Nat) (f : Nat → Nat) : ∀ k, sumN (fun i => c * f i) k = c * sumN f k
  | 0 => rfl
  | k + 1 => by simp only [sumN, sumN_mul c f k]; rw [Nat.mul_add]

theorem sumN_swap (f : Nat → Nat → Nat) (n : Nat) : ∀ k, sumN (fun t => sumN (f t) n) k = sumN (fun i => sumN (fun t => f t i) k) n
  | 0 => by simp only [sumN]; rw [sumN_const 0 n]; omega
  | k + 1 => by simp only [sumN]; rw [sumN_swap f n k, ← sumN_add]

theorem sumN_mono (f : Nat → Nat) {a b : Nat} (h : a ≤ b) : sumN f a ≤ sumN f b := by
  induction b with
  | zero => have e : a = 0 := by omega
            subst e; exact Nat.le_refl _
  | succ b ih =>
    rcases Nat.lt_or_ge a (b + 1) with h1 | h1
    · exact Nat.le_trans (ih (by omega)) (Nat.le_add_right _ _)
    · have e : a = b + 1 := by omega
      subst e; exact Nat.le_refl _

/-- One, where a test holds. -/
def one (p : Prop) [Decidable p] : Nat := if p then 1 else 0

theorem one_pos {p : Prop} [Decidable p] (h : p) : one p = 1 := if_pos h
theorem one_neg {p : Prop} [Decidable p] (h : ¬ p) : one p = 0 := if_neg h
theorem one_le (p : Prop) [Decidable p] : one p ≤ 1 := by unfold one; split <;> omega

theorem sumN_none {f : Nat → Nat} : ∀ {k : Nat}, (∀ i, i < k → f i = 0) → sumN f k = 0
  | 0, _ => rfl
  | k + 1, h => by simp only [sumN]; rw [sumN_none fun i hi => h i (by omega), h k (by omega)]

/-- At most one of them. -/
theorem sumN_one (p : Nat → Prop) [∀ i, Decidable (p i)] : ∀ {k : Nat}, (∀ i j, i < k → j < k → p i → p j → i = j) → sumN (fun i => one (p i)) k ≤ 1
  | 0, _ => by simp [sumN]
  | k + 1, h => by
    simp only [sumN]
    by_cases hp : p k
    · rw [sumN_none fun i hi => one_neg fun hi' => by have := h i k (by omega) (by omega) hi' hp; omega, one_pos hp]
      exact Nat.le_refl _
    · rw [one_neg hp]
      exact sumN_one p fun i j hi hj => h i j (by omega) (by omega)

theorem sumN_ge {f : Nat → Nat} {k i : Nat} (hi : i < k) : f i ≤ sumN f k := by
  have := sumN_mono f (show i + 1 ≤ k by omega)
  simp only [sumN] at this
  omega

/-- So many whole times lie between b and b + l. -/
theorem sumN_span (b l : Nat) : ∀ k, sumN (fun t => one (b ≤ t ∧ t < b + l)) k = min k (b + l) - b
  | 0 => by simp only [sumN]; omega
  | k + 1 => by
    simp only [sumN]
    rw [sumN_span b l k]
    by_cases h : b ≤ k ∧ k < b + l
    · rw [one_pos h]; omega
    · rw [one_neg h]; omega

/-- Jobs: how many, how long, which come ahead. -/
structure Jobs where
  n : Nat
  len : Nat → Nat
  aft : Nat → List Nat

/-- The longest way to each job. -/
structure Ways (J : Jobs) (sp : Nat → Nat) : Prop where
  len : ∀ i, i < J.n → 1 ≤ J.len i
  lt : ∀ i, i < J.n → ∀ a ∈ J.aft i, a < J.n
  most : ∀ i, i < J.n → ∀ a ∈ J.aft i, sp a + J.len i ≤ sp i
  least : ∀ i, i < J.n → J.len i ≤ sp i
  some : ∀ i, i < J.n → sp i = J.len i ∨ ∃ a ∈ J.aft i, sp i = sp a + J.len i

/-- Work and span. -/
structure Sums (J : Jobs) (work span : Nat) : Prop where
  work : work = sumN J.len J.n
  span : ∃ sp, Ways J sp ∧ (∀ i, i < J.n → sp i ≤ span) ∧ (span = 0 ∨ ∃ i, i < J.n ∧ sp i = span)

def runs (J : Jobs) (B : Nat → Nat) (t i : Nat) : Nat := one (B i ≤ t ∧ t < B i + J.len i)
/-- How many jobs run at a time. -/
def busy (J : Jobs) (B : Nat → Nat) (t : Nat) : Nat := sumN (runs J B t) J.n

/-- A plan: each job behind those that come ahead of it; no worker does two at one time; no worker rests while a job can begin; E: when the last one has ended. -/
structure Plan (J : Jobs) (m : Nat) (B W : Nat → Nat) (E : Nat) : Prop where
  after : ∀ i, i < J.n → ∀ a ∈ J.aft i, B a + J.len a ≤ B i
  worker : ∀ i, i < J.n → W i < m
  apart : ∀ i k, i < J.n → k < J.n → i ≠ k → W i = W k → B i + J.len i ≤ B k ∨ B k + J.len k ≤ B i
  ends : ∀ i, i < J.n → B i + J.len i ≤ E
  last : E = 0 ∨ ∃ i, i < J.n ∧ B i + J.len i = E
  greedy : ∀ i, i < J.n → ∀ t, t < B i → (∀ a ∈ J.aft i, B a + J.len a ≤ t) → m ≤ busy J B t

variable {J : Jobs} {m E work span : Nat} {B W sp : Nat → Nat}

theorem Plan.busy_le (P : Plan J m B W E) (t : Nat) : busy J B t ≤ m := by
  have e : busy J B t = sumN (fun w => sumN (fun i => one (W i = w ∧ B i ≤ t ∧ t < B i + J.len i)) J.n) m := by
    rw [sumN_swap (fun w i => one (W i = w ∧ B i ≤ t ∧ t < B i + J.len i)) J.n m]
    apply sumN_congr
    intro i hi
    by_cases h : B i ≤ t ∧ t < B i + J.len i
    · have : sumN (fun w => one (W i = w ∧ B i ≤ t ∧ t < B i + J.len i)) m ≤ 1 := sumN_one _ fun a b _ _ ha hb => by omega
      have h2 := sumN_ge (f := fun w => one (W i = w ∧ B i ≤ t ∧ t < B i + J.len i)) (P.worker i hi)
      have h3 : one (W i = W i ∧ B i ≤ t ∧ t < B i + J.len i) = 1 := one_pos ⟨rfl, h⟩
      rw [h3] at h2
      unfold runs
      rw [one_pos h]
      omega
    · unfold runs
      rw [one_neg h, sumN_none]
      intro w _
      exact one_neg fun hx => h hx.2
  rw [e]
  have : sumN (fun w => sumN (fun i => one (W i = w ∧ B i ≤ t ∧ t < B i + J.len i)) J.n) m ≤ sumN (fun _ => 1) m := by
    apply sumN_le
    intro w _
    apply sumN_one
    intro i k hi hk h1 h2
    rcases Nat.decEq i k with hne | he
    · have := P.apart i k hi hk hne (by omega)
      omega
    · exact he
  rw [sumN_const, Nat.one_mul] at this
  exact this

/-- All that runs, over all times, is the work. -/
theorem Plan.work_eq (P : Plan J m B W E) : sumN (busy J B) E = sumN J.len J.n := by
  show sumN (fun t => sumN (runs J B t) J.n) E = _
  rw [sumN_swap]
  apply sumN_congr
  intro i hi
  have := P.ends i hi
  show sumN (fun t => one (B i ≤ t ∧ t < B i + J.len i)) E = _
  rw [sumN_span]
  omega

theorem Plan.work_le (P : Plan J m B W E) (S : Sums J work span) : work ≤ E * m := by
  rw [S.work, ← P.work_eq]
  have : sumN (busy J B) E ≤ sumN (fun _ => m) E := sumN_le fun t _ => P.busy_le t
  rw [sumN_const, Nat.mul_comm] at this
  exact this

theorem Plan.way_le (P : Plan J m B W E) (S : Ways J sp) : ∀ k i, i < J.n → sp i = k → sp i ≤ B i + J.len i := by
  intro k
  induction k using Nat.strongRecOn with
  | _ k ih =>
    intro i hi hk
    rcases S.some i hi with h | ⟨a, ha, h⟩
    · omega
    · have h1 := S.lt i hi a ha
      have h2 := S.len i hi
      have h3 := ih (sp a) (by omega) a h1 rfl
      have h4 := P.after i hi a ha
      omega

theorem Plan.span_le (P : Plan J m B W E) (S : Sums J work span) : span ≤ E := by
  obtain ⟨sp, hw, _, h | ⟨i, hi, h⟩⟩ := S.span
  · omega
  · have := P.way_le hw _ i hi rfl
    have := P.ends i hi
    omega

/-- At each time ahead of the end something runs. -/
theorem Plan.busy_pos (P : Plan J m B W E) (hm : 1 ≤ m) (S : Ways J sp) {t : Nat} (ht : t < E) : 1 ≤ busy J B t := by
  rcases Nat.lt_or_ge 0 (busy J B t) with h | h
  · exact h
  · exfalso
    have h0 : busy J B t = 0 := by omega
    have stop : ∀ i, i < J.n → ¬ (B i ≤ t ∧ t < B i + J.len i) := by
      intro i hi hr
      have := sumN_ge (f := runs J B t) hi
      have h1 : runs J B t i = 1 := one_pos hr
      unfold busy at h0
      omega
    have none : ∀ k i, i < J.n → sp i = k → ¬ t < B i := by
      intro k
      induction k using Nat.strongRecOn with
      | _ k ih =>
        intro i hi hk hlt
        by_cases hall : ∀ a ∈ J.aft i, B a + J.len a ≤ t
        · have := P.greedy i hi t hlt hall
          omega
        · obtain ⟨a, ha⟩ := Classical.not_forall.1 hall
          obtain ⟨ha, hgt⟩ := Classical.not_imp.1 ha
          have h1 := S.lt i hi a ha
          have h2 := S.most i hi a ha
          have h3 := S.len i hi
          have h4 := stop a h1
          exact ih (sp a) (by omega) a h1 rfl (by omega)
    rcases P.last with h1 | ⟨i, hi, h1⟩
    · omega
    · have h2 := stop i hi
      exact none _ i hi rfl (by omega)

/-- Whether a worker rests at a time. -/
def idle (J : Jobs) (m : Nat) (B : Nat → Nat) (t : Nat) : Nat := one (busy J B t < m)

theorem last_idle (f : Nat → Nat) (hf : ∀ t, f t ≤ 1) : ∀ k, sumN f k = 0 ∨ ∃ t, t < k ∧ f t = 1 ∧ sumN f k = sumN f (t + 1)
  | 0 => .inl rfl
  | k + 1 => by
    have := hf k
    rcases Nat.lt_or_ge 0 (f k) with h | h
    · exact .inr ⟨k, by omega, by omega, rfl⟩
    · rcases last_idle f hf k with h1 | ⟨t, h1, h2, h3⟩
      · left; simp only [sumN]; omega
      · right; exact ⟨t, by omega, h2, by rw [← h3]; simp only [sumN]; omega⟩

theorem sumN_few (f : Nat → Nat) (hf : ∀ t, f t ≤ 1) (a l : Nat) : sumN f (a + l) ≤ sumN f a + l := by
  induction l with
  | zero => exact Nat.le_refl _
  | succ l ih =>
    have := hf (a + l)
    show sumN f (a + l) + f (a + l) ≤ _
    omega

/-- Up to a job's end no more times are idle than the longest way to it is long. -/
theorem Plan.idle_le (P : Plan J m B W E) (S : Ways J sp) : ∀ k i, i < J.n → sp i = k → sumN (idle J m B) (B i + J.len i) ≤ sp i := by
  intro k
  induction k using Nat.strongRecOn with
  | _ k ih =>
    intro i hi hk
    have h1 := sumN_few (idle J m B) (fun t => one_le _) (B i) (J.len i)
    have h2 := S.least i hi
    rcases last_idle (idle J m B) (fun t => one_le _) (B i) with h3 | ⟨t, h3, h4, h5⟩
    · omega
    · have hb : busy J B t < m := by
        rcases Nat.decLt (busy J B t) m with hx | hx
        · have : idle J m B t = 0 := one_neg hx
          omega
        · exact hx
      by_cases hall : ∀ a ∈ J.aft i, B a + J.len a ≤ t
      · have := P.greedy i hi t h3 hall
        omega
      · obtain ⟨a, ha⟩ := Classical.not_forall.1 hall
        obtain ⟨ha, hgt⟩ := Classical.not_imp.1 ha
        have h6 := S.lt i hi a ha
        have h7 := S.most i hi a ha
        have h8 := S.len i hi
        have h9 := ih (sp a) (by omega) a h6 rfl
        have h10 := sumN_mono (idle J m B) (show t + 1 ≤ B a + J.len a by omega)
        omega

/-- GRAHAM. -/
theorem Plan.graham (P : Plan J m B W E) (hm : 1 ≤ m) (S : Sums J work span) : E * m ≤ work + (m - 1) * span := by
  obtain ⟨sp, hw, hmax, _⟩ := S.span
  have hidle : sumN (idle J m B) E ≤ span := by
    rcases P.last with h | ⟨i, hi, h⟩
    · subst h; exact Nat.zero_le _
    · have h1 := P.idle_le hw _ i hi rfl
      have h2 := hmax i hi
      rw [h] at h1
      omega
  have h1 : sumN (fun _ => m) E ≤ sumN (fun t => busy J B t + (m - 1) * idle J m B t) E := by
    apply sumN_le
    intro t ht
    have h2 := P.busy_pos hm hw ht
    by_cases h : busy J B t < m
    · have : idle J m B t = 1 := one_pos h
      rw [this]; omega
    · have h3 := P.busy_le t
      omega
  rw [sumN_const, sumN_add, sumN_mul, P.work_eq, ← S.work] at h1
  have h2 : (m - 1) * sumN (idle J m B) E ≤ (m - 1) * span := Nat.mul_le_mul_left _ hidle
  rw [Nat.mul_comm]
  omega

/-- At each time something runs: the plan is no longer than the work. -/
theorem Plan.end_le (P : Plan J m B W E) (hm : 1 ≤ m) (S : Sums J work span) : E ≤ work := by
  obtain ⟨sp, hw, _, _⟩ := S.span
  have h1 : sumN (fun _ => 1) E ≤ sumN (busy J B) E := sumN_le fun t ht => P.busy_pos hm hw ht
  rw [sumN_const, Nat.one_mul, P.work_eq, ← S.work] at h1
  exact h1

/-- More urgent, or as urgent with a lesser number. -/
def better (urg : Nat → Int) (k i : Nat) : Prop := urg i < urg k ∨ (urg k = urg i ∧ k < i)

theorem better_asymm {urg : Nat → Int} {k i : Nat} (h : better urg k i) (h' : better urg i k) : False := by
  unfold better at h h'
  omega

/-- All that come ahead are over. -/
def ready (J : Jobs) (B : Nat → Nat) (i t : Nat) : Prop := ∀ a ∈ J.aft i, B a + J.len a ≤ t

/-- The document's plan, said of its outcome: each job is ready when it begins; no worker does two at one time; and whenever a job is ready and is not begun by a worker, that worker is at work on another one, which, if it begins just then, is better. -/
structure Ruled (J : Jobs) (urg : Nat → Int) (m : Nat) (B W : Nat → Nat) : Prop where
  ready : ∀ i, i < J.n → ready J B i (B i)
  worker : ∀ i, i < J.n → W i < m
  apart : ∀ i k, i < J.n → k < J.n → i ≠ k → W i = W k → B i + J.len i ≤ B k ∨ B k + J.len k ≤ B i
  rule : ∀ i, i < J.n → ∀ t w, (t < B i ∧ w < m ∨ t = B i ∧ w < W i) → Gr.ready J B i t → ∃ k, k < J.n ∧ W k = w ∧ B k ≤ t ∧ t < B k + J.len k ∧ (B k = t → better urg k i)

section
variable {urg : Nat → Int} {B' W' : Nat → Nat}

theorem ruled_half (hl : ∀ i, i < J.n → 1 ≤ J.len i) (ha : ∀ i, i < J.n → ∀ a ∈ J.aft i, a < J.n) (P : Ruled J urg m B W) (Q : Ruled J urg m B' W') (t w : Nat)
    (ih : ∀ t' w', (t' < t ∨ t' = t ∧ w' < w) → ∀ i, i < J.n → ((B i = t' ∧ W i = w') ↔ (B' i = t' ∧ W' i = w'))) (i : Nat) (hi : i < J.n) (hB : B i = t) (hW : W i = w) : B' i = t ∧ W' i = w := by
  have early : ∀ k, k < J.n → B k < t → B' k = B k ∧ W' k = W k := fun k hk h => (ih (B k) (W k) (.inl h) k hk).1 ⟨rfl, rfl⟩
  have early' : ∀ k, k < J.n → B' k < t → B k = B' k ∧ W k = W' k := fun k hk h => (ih (B' k) (W' k) (.inl h) k hk).2 ⟨rfl, rfl⟩
  rcases Classical.em (B' i = t ∧ W' i = w) with h | hne
  · exact h
  · exfalso
    have h1 : t < B' i ∨ t = B' i ∧ w < W' i := by
      rcases Classical.em (B' i < t ∨ B' i = t ∧ W' i < w) with hs | hs
      · have := (ih (B' i) (W' i) hs i hi).2 ⟨rfl, rfl⟩
        omega
      · omega
    have hwm : w < m := by have := P.worker i hi; omega
    have h2 : ready J B' i t := by
      intro a hmem
      have h3 := P.ready i hi a hmem
      have h4 := ha i hi a hmem
      have h5 := hl a h4
      have h6 := early a h4 (by omega)
      omega
    obtain ⟨k, hk, hWk, hk1, hk2, hbet⟩ := Q.rule i hi t w (by omega) h2
    have hki : k ≠ i := by
      intro e
      subst e
      omega
    have hli := hl i hi
    have hlk := hl k hk
    rcases Nat.lt_or_ge (B' k) t with h3 | h3
    · have h4 := early' k hk h3
      have := P.apart k i hk hi hki (by omega)
      omega
    · have h4 : B' k = t := by omega
      have hb := hbet h4
      have h5 : t < B k ∨ t = B k ∧ w < W k := by
        rcases Classical.em (B k < t ∨ B k = t ∧ W k < w) with hs | hs
        · have := (ih (B k) (W k) hs k hk).1 ⟨rfl, rfl⟩
          omega
        · rcases Classical.em (B k = t ∧ W k = w) with he | he
          · have := P.apart k i hk hi hki (by omega)
            omega
          · omega
      have h6 : ready J B k t := by
        intro a hmem
        have h7 := Q.ready k hk a hmem
        have h8 := ha k hk a hmem
        have h9 := hl a h8
        have h10 := early' a h8 (by omega)
        omega
      obtain ⟨k2, hk2n, hW2, h21, h22, hbet2⟩ := P.rule k hk t w (by omega) h6
      have e : k2 = i := by
        rcases Classical.em (k2 = i) with e | e
        · exact e
        · have := P.apart k2 i hk2n hi e (by omega)
          omega
      subst e
      exact better_asymm hb (hbet2 (by omega))

/-- THERE IS ONE PLAN. -/
theorem Ruled.only (hl : ∀ i, i < J.n → 1 ≤ J.len i) (ha : ∀ i, i < J.n → ∀ a ∈ J.aft i, a < J.n) (P : Ruled J urg m B W) (Q : Ruled J urg m B' W') : ∀ i, i < J.n → B i = B' i ∧ W i = W' i := by
  have all : ∀ t w i, i < J.n → ((B i = t ∧ W i = w) ↔ (B' i = t ∧ W' i = w)) := by
    intro t
    induction t using Nat.strongRecOn with
    | _ t iht =>
      intro w
      induction w using Nat.strongRecOn with
      | _ w ihw =>
        have ih : ∀ t' w', (t' < t ∨ t' = t ∧ w' < w) → ∀ i, i < J.n → ((B i = t' ∧ W i = w') ↔ (B' i = t' ∧ W' i = w')) := by
          intro t' w' h i hi
          rcases h with h | ⟨rfl, h⟩
          · exact iht t' h w' i hi
          · exact ihw w' h i hi
        intro i hi
        exact ⟨fun h => ruled_half hl ha P Q t w ih i hi h.1 h.2, fun h => ruled_half hl ha Q P t w (fun t' w' h i hi => (ih t' w' h i hi).symm) i hi h.1 h.2⟩
  intro i hi
  have := (all (B i) (W i) i hi).1 ⟨rfl, rfl⟩
  omega

theorem busy_by_worker (hw : ∀ i, i < J.n → W i < m) (t : Nat) : busy J B t = sumN (fun w => sumN (fun i => one (W i = w ∧ B i ≤ t ∧ t < B i + J.len i)) J.n) m := by
  rw [sumN_swap (fun w i => one (W i = w ∧ B i ≤ t ∧ t < B i + J.len i)) J.n m]
  apply sumN_congr
  intro i hi
  by_cases h : B i ≤ t ∧ t < B i + J.len i
  · have : sumN (fun w => one (W i = w ∧ B i ≤ t ∧ t < B i + J.len i)) m ≤ 1 := sumN_one _ fun a b _ _ ha hb => by omega
    have h2 := sumN_ge (f := fun w => one (W i = w ∧ B i ≤ t ∧ t < B i + J.len i)) (hw i hi)
    have h3 : one (W i = W i ∧ B i ≤ t ∧ t < B i + J.len i) = 1 := one_pos ⟨rfl, h⟩
    rw [h3] at h2
    unfold runs
    rw [one_pos h]
    omega
  · unfold runs
    rw [one_neg h, sumN_none]
    intro w _
    exact one_neg fun hx => h hx.2

/-- The document's plan is one in which no worker rests. -/
theorem Ruled.plan (P : Ruled J urg m B W) (hE : ∀ i, i < J.n → B i + J.len i ≤ E) (hL : E = 0 ∨ ∃ i, i < J.n ∧ B i + J.len i = E) : Plan J m B W E where
  after i hi a ha := P.ready i hi a ha
  worker := P.worker
  apart := P.apart
  ends := hE
  last := hL
  greedy i hi t ht hr := by
    rw [busy_by_worker P.worker t]
    have : sumN (fun _ => 1) m ≤ sumN (fun w => sumN (fun i => one (W i = w ∧ B i ≤ t ∧ t < B i + J.len i)) J.n) m := by
      apply sumN_le
      intro w hw
      obtain ⟨k, hk, h1, h2, h3, _⟩ := P.rule i hi t w (.inl ⟨ht, hw⟩) hr
      have h4 := sumN_ge (f := fun i => one (W i = w ∧ B i ≤ t ∧ t < B i + J.len i)) hk
      have h5 : one (W k = w ∧ B k ≤ t ∧ t < B k + J.len k) = 1 := one_pos ⟨h1, h2, h3⟩
      rw [h5] at h4
      exact h4
    rw [sumN_const, Nat.one_mul] at this
    exact this
end


/-! ### How a plan is made: time by time, worker by worker -/

/-- Ready, as far as has been begun (D: begun). -/
def readyD (J : Jobs) (D : Nat → Bool) (B : Nat → Nat) (i t : Nat) : Prop := ∀ a ∈ J.aft i, D a = true ∧ B a + J.len a ≤ t

/-- What holds when all is settled for the times below t, and at t for the workers below w. -/
structure Part (J : Jobs) (urg : Nat → Int) (m : Nat) (D : Nat → Bool) (B W : Nat → Nat) (t w : Nat) : Prop where
  at_ : ∀ i, i < J.n → D i = true → W i < m ∧ (B i < t ∨ B i = t ∧ W i < w)
  ready : ∀ i, i < J.n → D i = true → readyD J D B i (B i)
  apart : ∀ i k, i < J.n → k < J.n → D i = true → D k = true → i ≠ k → W i = W k → B i + J.len i ≤ B k ∨ B k + J.len k ≤ B i
  rule : ∀ i, i < J.n → D i = true → ∀ t' w', (t' < B i ∧ w' < m ∨ t' = B i ∧ w' < W i) → readyD J D B i t' →
    ∃ k, k < J.n ∧ D k = true ∧ W k = w' ∧ B k ≤ t' ∧ t' < B k + J.len k ∧ (B k = t' → better urg k i)
  left : ∀ i, i < J.n → D i = false → ∀ t' w', (t' < t ∧ w' < m ∨ t' = t ∧ w' < w) → readyD J D B i t' →
    ∃ k, k < J.n ∧ D k = true ∧ W k = w' ∧ B k ≤ t' ∧ t' < B k + J.len k ∧ (B k = t' → better urg k i)

/-- A function, but for one place. -/
def put {α : Type} (f : Nat → α) (b : Nat) (x : α) (i : Nat) : α := if i = b then x else f i

theorem put_at {α : Type} (f : Nat → α) (b : Nat) (x : α) : put f b x b = x := if_pos rfl
theorem put_ne {α : Type} (f : Nat → α) {b i : Nat} (x : α) (h : i ≠ b) : put f b x i = f i := if_neg h

section
variable {urg : Nat → Int} {D : Nat → Bool} {t w : Nat}

theorem part_start (urg : Nat → Int) (hD : ∀ i, i < J.n → D i = false) : Part J urg m D B W 0 0 where
  at_ i hi h := by rw [hD i hi] at h; cases h
  ready i hi h := by rw [hD i hi] at h; cases h
  apart i k hi hk h := by rw [hD i hi] at h; cases h
  rule i hi h := by rw [hD i hi] at h; cases h
  left i hi h t' w' hx := by omega

/-- A worker that is at work. -/
theorem Part.skip (P : Part J urg m D B W t w) {k : Nat} (hk : k < J.n) (hD : D k = true) (hW : W k = w) (he : t < B k + J.len k) : Part J urg m D B W t (w + 1) where
  at_ i hi h := by have := P.at_ i hi h; omega
  ready := P.ready
  apart := P.apart
  rule := P.rule
  left i hi h t' w' hx hr := by
    rcases Classical.em (t' < t ∧ w' < m ∨ t' = t ∧ w' < w) with h1 | h1
    · exact P.left i hi h t' w' h1 hr
    · have h2 := (P.at_ k hk hD).2
      exact ⟨k, hk, hD, by omega, by omega, by omega, fun e => by omega⟩

theorem readyD_put (hl : ∀ i, i < J.n → 1 ≤ J.len i) {b i t' : Nat} (hb : b < J.n) (hbD : D b = false) (h : readyD J (put D b true) (put B b t) i t') (ht : t' ≤ t) : readyD J D B i t' := by
  intro a ha
  have h1 := h a ha
  by_cases e : a = b
  · subst e
    rw [put_at, put_at] at h1
    have := hl a hb
    omega
  · rw [put_ne _ _ e, put_ne _ _ e] at h1
    exact h1

theorem readyD_mono {b i t' : Nat} (hbD : D b = false) (h : readyD J D B i t') : readyD J (put D b true) (put B b t) i t' := by
  intro a ha
  have h1 := h a ha
  have e : a ≠ b := fun e => by subst e; rw [hbD] at h1; cases h1.1
  rw [put_ne _ _ e, put_ne _ _ e]
  exact h1

/-- A worker that is free takes the best of those that are ready. -/
theorem Part.begins (hl : ∀ i, i < J.n → 1 ≤ J.len i) (P : Part J urg m D B W t w) (hw : w < m) (hfree : ∀ k, k < J.n → D k = true → W k = w → B k + J.len k ≤ t) {b : Nat} (hb : b < J.n) (hbD : D b = false) (hbr : readyD J D B b t)
    (hbest : ∀ i, i < J.n → D i = false → readyD J D B i t → i ≠ b → better urg b i) : Part J urg m (put D b true) (put B b t) (put W b w) t (w + 1) := by
  have old : ∀ {i}, put D b true i = true → i ≠ b → D i = true := fun {i} h e => by rw [put_ne _ _ e] at h; exact h
  have lift : ∀ {i t' w'}, (∃ k, k < J.n ∧ D k = true ∧ W k = w' ∧ B k ≤ t' ∧ t' < B k + J.len k ∧ (B k = t' → better urg k i)) →
      ∃ k, k < J.n ∧ put D b true k = true ∧ put W b w k = w' ∧ put B b t k ≤ t' ∧ t' < put B b t k + J.len k ∧ (put B b t k = t' → better urg k i) := by
    rintro i t' w' ⟨k, hk, h1, h2, h3, h4, h5⟩
    have e : k ≠ b := fun e => by subst e; rw [hbD] at h1; cases h1
    exact ⟨k, hk, by rw [put_ne _ _ e]; exact h1, by rw [put_ne _ _ e]; exact h2, by rw [put_ne _ _ e]; exact h3, by rw [put_ne _ _ e]; exact h4, by rw [put_ne _ _ e]; exact h5⟩
  refine ⟨?_, ?_, ?_, ?_, ?_⟩
  · intro i hi h
    by_cases e : i = b
    · subst e; rw [put_at, put_at]; omega
    · rw [put_ne _ _ e, put_ne _ _ e]
      have := P.at_ i hi (old h e)
      omega
  · intro i hi h
    by_cases e : i = b
    · subst e; rw [put_at]; exact readyD_mono hbD hbr
    · rw [put_ne B t e]; exact readyD_mono hbD (P.ready i hi (old h e))
  · intro i k hi hk h1 h2 hne hW
    by_cases e : i = b
    · subst e
      have e2 : k ≠ i := fun e => hne e.symm
      rw [put_at, put_ne _ _ e2] at hW
      rw [put_at, put_ne _ _ e2]
      have := hfree k hk (old h2 e2) (by omega)
      omega
    · by_cases e2 : k = b
      · subst e2
        rw [put_at, put_ne _ _ e] at hW
        rw [put_at, put_ne _ _ e]
        have := hfree i hi (old h1 e) (by omega)
        omega
      · rw [put_ne _ _ e, put_ne _ _ e2] at hW
        rw [put_ne _ _ e, put_ne _ _ e2]
        exact P.apart i k hi hk (old h1 e) (old h2 e2) hne hW
  · intro i hi h t' w' hx hr
    by_cases e : i = b
    · subst e
      rw [put_at, put_at] at hx
      exact lift (P.left i hi hbD t' w' (by omega) (readyD_put hl hb hbD hr (by omega)))
    · rw [put_ne _ _ e, put_ne _ _ e] at hx
      have h1 := (P.at_ i hi (old h e)).2
      exact lift (P.rule i hi (old h e) t' w' hx (readyD_put hl hb hbD hr (by omega)))
  · intro i hi h t' w' hx hr
    have e : i ≠ b := fun e => by subst e; rw [put_at] at h; cases h
    rw [put_ne _ _ e] at h
    have hr' := readyD_put hl hb hbD hr (by omega)
    rcases Classical.em (t' < t ∧ w' < m ∨ t' = t ∧ w' < w) with h1 | h1
    · exact lift (P.left i hi h t' w' h1 hr')
    · have ht : t' = t := by omega
      subst ht
      have := hl b hb
      exact ⟨b, hb, put_at .., by rw [put_at]; omega, by rw [put_at]; exact Nat.le_refl _, by rw [put_at]; omega, fun _ => hbest i hi h hr' e⟩

/-- None is ready: so for all further workers. -/
theorem Part.none (P : Part J urg m D B W t w) (h : ∀ i, i < J.n → D i = false → ¬ readyD J D B i t) (w2 : Nat) (hw : w ≤ w2) : Part J urg m D B W t w2 where
  at_ i hi h := by have := P.at_ i hi h; omega
  ready := P.ready
  apart := P.apart
  rule := P.rule
  left i hi hd t' w' hx hr := by
    rcases Classical.em (t' < t) with h1 | h1
    · exact P.left i hi hd t' w' (by omega) hr
    · have e : t' = t := by omega
      subst e
      exact absurd hr (h i hi hd)

theorem Part.next (P : Part J urg m D B W t m) : Part J urg m D B W (t + 1) 0 where
  at_ i hi h := by have := P.at_ i hi h; omega
  ready := P.ready
  apart := P.apart
  rule := P.rule
  left i hi h t' w' hx hr := P.left i hi h t' w' (by omega) hr

/-- All are begun: the document's plan. -/
theorem Part.ruled (P : Part J urg m D B W t w) (ha : ∀ i, i < J.n → ∀ a ∈ J.aft i, a < J.n) (hall : ∀ i, i < J.n → D i = true) : Ruled J urg m B W where
  ready i hi a hm := (P.ready i hi (hall i hi) a hm).2
  worker i hi := (P.at_ i hi (hall i hi)).1
  apart i k hi hk hne hW := P.apart i k hi hk (hall i hi) (hall k hk) hne hW
  rule i hi t' w' hx hr := by
    obtain ⟨k, hk, _, h⟩ := P.rule i hi (hall i hi) t' w' hx fun a hm => ⟨hall a (ha i hi a hm), hr a hm⟩
    exact ⟨k, hk, h⟩

/-- Until when each worker is at work. -/
structure Until (J : Jobs) (D : Nat → Bool) (B W : Nat → Nat) (U : Nat → Nat) : Prop where
  most : ∀ k, k < J.n → D k = true → B k + J.len k ≤ U (W k)
  some : ∀ x, U x = 0 ∨ ∃ k, k < J.n ∧ D k = true ∧ W k = x ∧ B k + J.len k = U x

theorem until_start (hD : ∀ i, i < J.n → D i = false) : Until J D B W (fun _ => 0) where
  most k hk h := by rw [hD k hk] at h; cases h
  some _ := .inl rfl

theorem Until.begins {U : Nat → Nat} (hU : Until J D B W U) {b : Nat} (hb : b < J.n) (hbD : D b = false) (hfree : U w ≤ t) : Until J (put D b true) (put B b t) (put W b w) (put U w (t + J.len b)) where
  most k hk h := by
    by_cases e : k = b
    · subst e; rw [put_at, put_at, put_at]; exact Nat.le_refl _
    · rw [put_ne _ _ e] at h
      rw [put_ne _ _ e, put_ne _ _ e]
      have h1 := hU.most k hk h
      by_cases e2 : W k = w
      · rw [e2] at h1 ⊢
        rw [put_at]
        omega
      · rw [put_ne _ _ e2]; exact h1
  some x := by
    by_cases e : x = w
    · subst e
      right
      exact ⟨b, hb, put_at .., put_at .., by rw [put_at, put_at]⟩
    · rw [put_ne _ _ e]
      rcases hU.some x with h | ⟨k, hk, h1, h2, h3⟩
      · exact .inl h
      · have e2 : k ≠ b := fun e2 => by subst e2; rw [hbD] at h1; cases h1
        exact .inr ⟨k, hk, by rw [put_ne _ _ e2]; exact h1, by rw [put_ne _ _ e2]; exact h2, by rw [put_ne _ _ e2]; exact h3⟩

/-- When the last that has begun will have ended. -/
structure Ends (J : Jobs) (D : Nat → Bool) (B : Nat → Nat) (E : Nat) : Prop where
  most : ∀ k, k < J.n → D k = true → B k + J.len k ≤ E
  some : E = 0 ∨ ∃ k, k < J.n ∧ D k = true ∧ B k + J.len k = E

theorem ends_start (hD : ∀ i, i < J.n → D i = false) : Ends J D B 0 where
  most k hk h := by rw [hD k hk] at h; cases h
  some := .inl rfl

theorem Ends.begins {E : Nat} (hE : Ends J D B E) {b : Nat} (hb : b < J.n) (hbD : D b = false) : Ends J (put D b true) (put B b t) (max E (t + J.len b)) where
  most k hk h := by
    by_cases e : k = b
    · subst e; rw [put_at]; omega
    · rw [put_ne _ _ e] at h ⊢
      have := hE.most k hk h
      omega
  some := by
    rcases Nat.le_total E (t + J.len b) with h | h
    · right; exact ⟨b, hb, put_at .., by rw [put_at]; omega⟩
    · rcases hE.some with h1 | ⟨k, hk, h1, h2⟩
      · left; omega
      · have e2 : k ≠ b := fun e2 => by subst e2; rw [hbD] at h1; cases h1
        right; exact ⟨k, hk, by rw [put_ne _ _ e2]; exact h1, by rw [put_ne _ _ e2]; omega⟩

/-- How much has been done by a time. -/
def gone (J : Jobs) (D : Nat → Bool) (B : Nat → Nat) (t : Nat) : Nat := sumN (fun i => if D i = true then min (J.len i) (t - B i) else 0) J.n

theorem gone_le (J : Jobs) (D : Nat → Bool) (B : Nat → Nat) (t : Nat) : gone J D B t ≤ sumN J.len J.n := sumN_le fun i _ => by split <;> omega

theorem sumN_lt {f g : Nat → Nat} {k b : Nat} (h : ∀ i, i < k → f i ≤ g i) (hb : b < k) (hlt : f b < g b) : sumN f k < sumN g k := by
  induction k with
  | zero => omega
  | succ k ih =>
    simp only [sumN]
    rcases Nat.lt_or_ge b k with h1 | h1
    · have := ih (fun i hi => h i (by omega)) h1
      have := h k (by omega)
      omega
    · have e : b = k := by omega
      subst e
      have := sumN_le (k := b) fun i hi => h i (by omega)
      omega

theorem gone_lt (hl : ∀ i, i < J.n → 1 ≤ J.len i) {b : Nat} (hb : b < J.n) (hbD : D b = false) : gone J D B t < sumN J.len J.n := by
  refine sumN_lt (b := b) (fun i _ => ?_) hb ?_
  · split <;> omega
  · have := hl b hb
    rw [hbD]
    simp
    omega

/-- Beginning at t does not change what has been done by t. -/
theorem gone_begins {b : Nat} (hbD : D b = false) : gone J (put D b true) (put B b t) t = gone J D B t := by
  apply sumN_congr
  intro i _
  by_cases e : i = b
  · subst e; rw [put_at, put_at, hbD]; simp
  · rw [put_ne _ _ e, put_ne _ _ e]

theorem gone_step {k : Nat} (hk : k < J.n) (hD : D k = true) (h1 : B k ≤ t) (h2 : t < B k + J.len k) : gone J D B t < gone J D B (t + 1) := by
  refine sumN_lt (b := k) (fun i _ => ?_) hk ?_
  · split <;> omega
  · rw [if_pos hD, if_pos hD]; omega

/-- As long as one is not begun, something runs (r: a rank by which what comes ahead is lower). -/
theorem Part.runs {r : Nat → Nat} (hr : ∀ i, i < J.n → ∀ a ∈ J.aft i, a < J.n ∧ r a < r i) (hl : ∀ i, i < J.n → 1 ≤ J.len i) (hm : 1 ≤ m) {D0 : Nat → Bool} (P : Part J urg m D B W t m)
    (hold : ∀ i, i < J.n → D0 i = false → D i = true → B i = t) (hgo : ∀ i, D0 i = true → D i = true) : (∃ i, i < J.n ∧ D0 i = false) → ∃ k, k < J.n ∧ D k = true ∧ B k ≤ t ∧ t < B k + J.len k := by
  rintro ⟨i, hi, hD0⟩
  have main : ∀ c i, i < J.n → r i = c → D0 i = false → ∃ k, k < J.n ∧ D k = true ∧ B k ≤ t ∧ t < B k + J.len k := by
    intro c
    induction c using Nat.strongRecOn with
    | _ c ih =>
      intro i hi hc hD0
      cases hDi : D i with
      | true =>
        have := hold i hi hD0 hDi
        have := hl i hi
        exact ⟨i, hi, hDi, by omega, by omega⟩
      | false =>
        by_cases hall : readyD J D B i t
        · obtain ⟨k, hk, h1, _, h3, h4, _⟩ := P.left i hi hDi t 0 (.inr ⟨rfl, by omega⟩) hall
          exact ⟨k, hk, h1, h3, h4⟩
        · obtain ⟨a, ha⟩ := Classical.not_forall.1 hall
          obtain ⟨ha, hno⟩ := Classical.not_imp.1 ha
          obtain ⟨han, hra⟩ := hr i hi a ha
          cases hDa : D0 a with
          | false => exact ih (r a) (by omega) a han rfl hDa
          | true =>
            have hd := hgo a hDa
            have h5 := (P.at_ a han hd).2
            refine ⟨a, han, hd, by omega, ?_⟩
            rcases Nat.lt_or_ge t (B a + J.len a) with h6 | h6
            · exact h6
            · exact absurd ⟨hd, h6⟩ hno
  exact main _ i hi rfl hD0
end

end Gr
#print axioms Gr.Part.begins
#print axioms Gr.Part.runs
#print axioms Gr.Part.ruled
