/-
  OUR OWN TEXT. The longest ways: plain; the document's own, walked.
-/
import Derived.Test.YtgmemndjclhheaeChk
namespace Go.Proofs.Ytgmemndjclhheae
open Go.RowKit

/-- The greatest. -/
def mx : List Nat → Nat
  | [] => 0
  | x :: l => max x (mx l)

theorem mx_append (l : List Nat) (x : Nat) : mx (l ++ [x]) = max (mx l) x := by
  induction l with
  | nil => simp [mx]
  | cons y l ih => simp only [List.cons_append, mx, ih]; omega
theorem mx_ge {l : List Nat} {x : Nat} (h : x ∈ l) : x ≤ mx l := by
  induction l with
  | nil => cases h
  | cons y l ih =>
    simp only [mx]
    rcases List.mem_cons.1 h with rfl | h
    · omega
    · have := ih h; omega
theorem mx_mem (l : List Nat) : mx l = 0 ∨ mx l ∈ l := by
  induction l with
  | nil => exact .inl rfl
  | cons y l ih =>
    simp only [mx]
    rcases Nat.le_total y (mx l) with h | h
    · rw [Nat.max_eq_right h]
      rcases ih with h1 | h1
      · exact .inl h1
      · exact .inr (List.mem_cons_of_mem _ h1)
    · rw [Nat.max_eq_left h]; exact .inr List.mem_cons_self
theorem mx_le {l : List Nat} {b : Nat} (h : ∀ x ∈ l, x ≤ b) : mx l ≤ b := by
  rcases mx_mem l with h1 | h1
  · omega
  · exact h _ h1

/-- The longest way to a job, looked for so deep. -/
def spf (J : Jb) : Nat → Nat → Nat
  | 0, _ => 0
  | k + 1, i => mx ((J.aft i).map fun a => spf J k a.toNat) + (J.len i).toNat

def Rank (J : Jb) (r : Nat → Nat) : Prop := ∀ i, i < J.n → r i < J.n ∧ ∀ a ∈ J.aft i, r a.toNat < r i

section
variable {J : Jb} {r : Nat → Nat}

theorem spf_same (R : J.Right) (hr : Rank J r) : ∀ k k' i, i < J.n → r i < k → r i < k' → spf J k i = spf J k' i := by
  intro k
  induction k with
  | zero => intro k' i _ h; omega
  | succ k ih =>
    intro k' i hi h h'
    cases k' with
    | zero => omega
    | succ k' =>
      show mx _ + _ = mx _ + _
      congr 2
      apply List.map_congr_left
      intro a ha
      have h1 := (hr i hi).2 a ha
      have h2 := R.aft i hi a ha
      exact ih k' a.toNat (by omega) (by omega) (by omega)

/-- The longest way to each. -/
def sp (J : Jb) (i : Nat) : Nat := spf J J.n i

theorem sp_eq (R : J.Right) (hr : Rank J r) (i : Nat) (hi : i < J.n) : sp J i = mx ((J.aft i).map fun a => sp J a.toNat) + (J.len i).toNat := by
  have h0 := (hr i hi).1
  have e : sp J i = spf J (J.n + 1) i := spf_same R hr _ _ i hi h0 (by omega)
  rw [e]
  rfl

theorem sp_few (R : J.Right) (hr : Rank J r) : ∀ c i, i < J.n → r i = c → sp J i ≤ 1000 * (r i + 1) := by
  intro c
  induction c using Nat.strongRecOn with
  | _ c ih =>
    intro i hi hc
    rw [sp_eq R hr i hi]
    have h1 := (R.len i hi).2
    have h2 : mx ((J.aft i).map fun a => sp J a.toNat) ≤ 1000 * r i := mx_le fun x hx => by
      obtain ⟨a, ha, rfl⟩ := List.mem_map.1 hx
      have h3 := (hr i hi).2 a ha
      have h4 := R.aft i hi a ha
      have h5 := ih (r a.toNat) (by omega) a.toNat (by omega) rfl
      omega
    omega

theorem sp_bound (R : J.Right) (hr : Rank J r) (i : Nat) (hi : i < J.n) : sp J i ≤ 200000 := by
  have h1 := sp_few R hr _ i hi rfl
  have h2 := (hr i hi).1
  have h3 := R.few
  omega

theorem sp_ways (R : J.Right) (hr : Rank J r) : Gr.Ways J.gr (sp J) where
  len := right_len R
  lt := right_aft R
  most i hi a ha := by
    obtain ⟨x, hx, rfl⟩ := List.mem_map.1 ha
    rw [sp_eq R hr i hi]
    have := mx_ge (List.mem_map_of_mem (f := fun a => sp J a.toNat) hx)
    show sp J x.toNat + (J.len i).toNat ≤ _
    omega
  least i hi := by
    rw [sp_eq R hr i hi]
    show (J.len i).toNat ≤ _
    omega
  some i hi := by
    have e := sp_eq R hr i hi
    rcases mx_mem ((J.aft i).map fun a => sp J a.toNat) with h | h
    · left
      rw [e, h]
      show 0 + (J.len i).toNat = (J.len i).toNat
      omega
    · right
      obtain ⟨x, hx, hx2⟩ := List.mem_map.1 h
      exact ⟨x.toNat, List.mem_map_of_mem hx, by rw [e, ← hx2]; rfl⟩

/-- There is one longest way. -/
theorem ways_only {G : Gr.Jobs} {f g : Nat → Nat} (F : Gr.Ways G f) (H : Gr.Ways G g) : ∀ c i, i < G.n → f i = c → f i ≤ g i := by
  intro c
  induction c using Nat.strongRecOn with
  | _ c ih =>
    intro i hi hc
    rcases F.some i hi with h | ⟨a, ha, h⟩
    · have := H.least i hi; omega
    · have h1 := F.lt i hi a ha
      have h2 := F.len i hi
      have h3 := ih (f a) (by omega) a h1 rfl
      have h4 := H.most i hi a ha
      omega

theorem sums_only {G : Gr.Jobs} {w s w' s' : Nat} (h : Gr.Sums G w s) (h' : Gr.Sums G w' s') : w = w' ∧ s = s' := by
  refine ⟨h.work.trans h'.work.symm, ?_⟩
  obtain ⟨f, F, hf, hf2⟩ := h.span
  obtain ⟨g, H, hg, hg2⟩ := h'.span
  have a1 : s ≤ s' := by
    rcases hf2 with h1 | ⟨i, hi, h1⟩
    · omega
    · have := ways_only F H _ i hi rfl
      have := hg i hi
      omega
  have a2 : s' ≤ s := by
    rcases hg2 with h1 | ⟨i, hi, h1⟩
    · omega
    · have := ways_only H F _ i hi rfl
      have := hf i hi
      omega
  omega

/-- The longest ways, as far as they have been found: all of a rank below c are right, none is too long. -/
def LongTo (J : Jb) (r : Nat → Nat) (c : Nat) (L : Nat → Nat) : Prop := (∀ i, i < J.n → L i ≤ sp J i) ∧ ∀ i, i < J.n → r i < c → L i = sp J i

/-- .. and of those below k already one rank more. -/
def LongAt (J : Jb) (r : Nat → Nat) (c k : Nat) (L : Nat → Nat) : Prop := LongTo J r c L ∧ ∀ i, i < k → i < J.n → r i < c + 1 → L i = sp J i

theorem longAt_step (R : J.Right) (hr : Rank J r) {c k : Nat} {L : Nat → Nat} (h : LongAt J r c k L) (hk : k < J.n) : LongAt J r c (k + 1) (Gr.put L k (mx ((J.aft k).map fun a => L a.toNat) + (J.len k).toNat)) := by
  have e := sp_eq R hr k hk
  have le : mx ((J.aft k).map fun a => L a.toNat) ≤ mx ((J.aft k).map fun a => sp J a.toNat) := mx_le fun x hx => by
    obtain ⟨a, ha, rfl⟩ := List.mem_map.1 hx
    have h2 := R.aft k hk a ha
    have h3 := h.1.1 a.toNat (by omega)
    have h4 := mx_ge (List.mem_map_of_mem (f := fun a => sp J a.toNat) ha)
    omega
  have eq : r k < c + 1 → mx ((J.aft k).map fun a => L a.toNat) + (J.len k).toNat = sp J k := by
    intro hc
    rw [e]
    congr 2
    apply List.map_congr_left
    intro a ha
    have h1 := (hr k hk).2 a ha
    have h2 := R.aft k hk a ha
    exact h.1.2 a.toNat (by omega) (by omega)
  refine ⟨⟨fun i hi => ?_, fun i hi hc => ?_⟩, fun i hik hi hc => ?_⟩
  · by_cases e2 : i = k
    · subst e2; rw [Gr.put_at]; omega
    · rw [Gr.put_ne _ _ e2]; exact h.1.1 i hi
  · by_cases e2 : i = k
    · subst e2; rw [Gr.put_at]; exact eq (by omega)
    · rw [Gr.put_ne _ _ e2]; exact h.1.2 i hi hc
  · by_cases e2 : i = k
    · subst e2; rw [Gr.put_at]; exact eq hc
    · rw [Gr.put_ne _ _ e2]; exact h.2 i (by omega) hi hc

theorem long_start : LongTo J r 0 (fun _ => 0) := ⟨fun _ _ => Nat.zero_le _, fun _ _ h => by omega⟩
theorem longAt_start {c : Nat} {L : Nat → Nat} (h : LongTo J r c L) : LongAt J r c 0 L := ⟨h, fun i hi => by omega⟩
theorem longAt_end {c k : Nat} {L : Nat → Nat} (h : LongAt J r c k L) (hk : J.n ≤ k) : LongTo J r (c + 1) L := ⟨h.1.1, fun i hi hc => h.2 i (by omega) hi hc⟩

theorem mx_take {L : Nat → Nat} {l : List Int} {j : Nat} (hj : j < l.length) : mx ((l.take (j + 1)).map fun a => L a.toNat) = max (mx ((l.take j).map fun a => L a.toNat)) (L l[j].toNat) := by
  rw [List.take_succ_eq_append_getElem hj, List.map_append, List.map_cons, List.map_nil, mx_append]

/-- The greatest of the first k. -/
def mxTo (L : Nat → Nat) : Nat → Nat
  | 0 => 0
  | k + 1 => max (mxTo L k) (L k)
theorem mxTo_ge {L : Nat → Nat} : ∀ {k i : Nat}, i < k → L i ≤ mxTo L k
  | 0, i, h => by omega
  | k + 1, i, h => by
    simp only [mxTo]
    rcases Nat.lt_succ_iff_lt_or_eq.1 h with h1 | rfl
    · have := mxTo_ge (L := L) h1; omega
    · omega
theorem mxTo_some {L : Nat → Nat} : ∀ {k : Nat}, mxTo L k = 0 ∨ ∃ i, i < k ∧ L i = mxTo L k
  | 0 => .inl rfl
  | k + 1 => by
    simp only [mxTo]
    rcases Nat.le_total (mxTo L k) (L k) with h | h
    · right; exact ⟨k, by omega, by omega⟩
    · rcases mxTo_some (L := L) (k := k) with h1 | ⟨i, h1, h2⟩
      · left; omega
      · right; exact ⟨i, by omega, by omega⟩
theorem mxTo_congr {L L' : Nat → Nat} : ∀ {k : Nat}, (∀ i, i < k → L i = L' i) → mxTo L k = mxTo L' k
  | 0, _ => rfl
  | k + 1, h => by simp only [mxTo]; rw [mxTo_congr fun i hi => h i (by omega), h k (by omega)]

theorem sums_end (R : J.Right) (hr : Rank J r) {L : Nat → Nat} (h : LongTo J r (J.n + 1) L) : Gr.Sums J.gr (Gr.sumN J.gr.len J.gr.n) (mxTo L J.n) where
  work := rfl
  span := by
    refine ⟨sp J, sp_ways R hr, fun i hi => ?_, ?_⟩
    · have h1 := (hr i hi).1
      have h2 := h.2 i hi (by omega)
      have h3 := mxTo_ge (L := L) (show i < J.n from hi)
      omega
    · rcases mxTo_some (L := L) (k := J.n) with h1 | ⟨i, hi, h1⟩
      · exact .inl h1
      · refine .inr ⟨i, hi, ?_⟩
        have h2 := (hr i hi).1
        have h3 := h.2 i hi (by omega)
        omega
end

#print axioms sums_only
#print axioms sums_end
end Go.Proofs.Ytgmemndjclhheae
