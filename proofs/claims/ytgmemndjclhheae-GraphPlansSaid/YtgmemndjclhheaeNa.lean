/-
  OUR OWN TEXT. Who waits for whom, by counts: plain mathematics for a code that counts off what each job still waits for.
-/
import Derived.Test.YtgmemndjclhheaeChk
namespace Go.Proofs.Ytgmemndjclhheae
open Go.RowKit

/-- How many of a job's After are not over. -/
def lfO (J : Jb) (O : Nat → Bool) (i : Nat) : Nat := (J.gr.aft i).countP fun a => !O a

theorem lf_zero {J : Jb} {O : Nat → Bool} {i : Nat} : lfO J O i = 0 ↔ adB O (J.aft i) = true := by
  unfold lfO adB
  rw [List.countP_eq_zero, List.all_eq_true]
  constructor
  · intro h a ha
    have := h a.toNat (List.mem_map_of_mem ha)
    simpa using this
  · intro h a ha
    obtain ⟨x, hx, rfl⟩ := List.mem_map.1 ha
    simpa using h x hx

theorem lf_zero' {J : Jb} {O : Nat → Bool} {i : Nat} : lfO J O i = 0 ↔ ∀ a ∈ J.gr.aft i, O a = true := by
  unfold lfO
  rw [List.countP_eq_zero]
  exact ⟨fun h a ha => by simpa using h a ha, fun h a ha => by simpa using h a ha⟩

theorem lf_pos {J : Jb} {O : Nat → Bool} {i : Nat} (h : lfO J O i ≠ 0) : ∃ a ∈ J.gr.aft i, O a = false := by
  unfold lfO at h
  have h1 : 0 < (J.gr.aft i).countP fun a => !O a := by omega
  obtain ⟨a, ha, hp⟩ := List.countP_pos_iff.1 h1
  exact ⟨a, ha, by simpa using hp⟩

theorem countP_put (O : Nat → Bool) (j : Nat) (hO : O j = false) : ∀ l : List Nat, l.countP (fun a => !Gr.put O j true a) + l.count j = l.countP fun a => !O a
  | [] => rfl
  | x :: l => by
    have ih := countP_put O j hO l
    rw [List.countP_cons, List.countP_cons, List.count_cons]
    by_cases e : x = j
    · subst e
      rw [Gr.put_at, hO]
      simp
      omega
    · rw [Gr.put_ne _ _ e]
      have e' : (x == j) = false := by simpa using e
      rw [e']
      simp only [Bool.false_eq_true, if_false]
      omega

theorem lf_put {J : Jb} {O : Nat → Bool} {j : Nat} (hO : O j = false) (i : Nat) : lfO J (Gr.put O j true) i + (J.gr.aft i).count j = lfO J O i := countP_put O j hO _

theorem lf_none (J : Jb) (i : Nat) : lfO J (fun _ => false) i = (J.aft i).length := by
  unfold lfO
  show List.countP (fun _ => !false) ((J.aft i).map Int.toNat) = _
  rw [Bool.not_false, List.countP_true, List.length_map]

/-- Those that wait for each job, each as often as it stands in the other's After. -/
structure Beh (J : Jb) (bh : Nat → List Nat) : Prop where
  cnt : ∀ a, a < J.n → ∀ i, (bh a).count i = if i < J.n then (J.gr.aft i).count a else 0
  few : ∀ a, a < J.n → (bh a).length ≤ 40000

theorem Beh.lt {J : Jb} {bh : Nat → List Nat} (h : Beh J bh) {a i : Nat} (ha : a < J.n) (hi : i ∈ bh a) : i < J.n := by
  have h1 := List.count_pos_iff.2 hi
  rw [h.cnt a ha i] at h1
  split at h1
  · assumption
  · omega

theorem Beh.le {J : Jb} {bh : Nat → List Nat} (h : Beh J bh) {O : Nat → Bool} {j : Nat} (hj : j < J.n) (hO : O j = false) (i : Nat) : (bh j).count i ≤ lfO J O i := by
  rw [h.cnt j hj i]
  split
  · have := lf_put (J := J) hO i; omega
  · omega

/-- Which of them have been looked at: all of the jobs below i, and k of i's. -/
structure BehTo (J : Jb) (i k : Nat) (bh : Nat → List Nat) : Prop where
  cnt : ∀ a, a < J.n → ∀ x, (bh a).count x = if x < i then (J.gr.aft x).count a else if x = i then ((J.gr.aft i).take k).count a else 0
  few : ∀ a, a < J.n → (bh a).length ≤ i * 200 + k

theorem behTo_start (J : Jb) : BehTo J 0 0 (fun _ => []) where
  cnt a _ x := by
    rw [if_neg (by omega)]
    split <;> simp
  few a _ := by simp

theorem behTo_row {J : Jb} {i k : Nat} {bh : Nat → List Nat} (h : BehTo J i k bh) (hk : k = (J.gr.aft i).length) (h2 : k ≤ 200) : BehTo J (i + 1) 0 bh where
  cnt a ha x := by
    rw [h.cnt a ha x]
    by_cases h1 : x < i
    · rw [if_pos h1, if_pos (by omega)]
    · rw [if_neg h1]
      by_cases h3 : x = i
      · subst h3
        rw [if_pos rfl, if_pos (by omega), List.take_of_length_le (by omega)]
      · rw [if_neg h3, if_neg (by omega)]
        split <;> simp
  few a ha := by have := h.few a ha; omega

theorem behTo_one {J : Jb} {i k : Nat} {bh : Nat → List Nat} (h : BehTo J i k bh) (hk : k < (J.gr.aft i).length) : BehTo J i (k + 1) (Gr.put bh (J.gr.aft i)[k] (bh (J.gr.aft i)[k] ++ [i])) where
  cnt a ha x := by
    have h0 := h.cnt a ha x
    have hx : ∀ b : Nat, ((J.gr.aft i).take (k + 1)).count b = ((J.gr.aft i).take k).count b + if (J.gr.aft i)[k] = b then 1 else 0 := fun b => by
      rw [List.take_succ_eq_append_getElem hk, List.count_append, List.count_singleton]
      simp
    by_cases e : a = (J.gr.aft i)[k]
    · rw [← e, Gr.put_at, List.count_append, List.count_singleton, h0, hx a, if_pos e.symm]
      by_cases h1 : x < i
      · rw [if_pos h1, if_pos h1]
        have e2 : (i == x) = false := by simp; omega
        rw [e2]; simp
      · rw [if_neg h1, if_neg h1]
        by_cases h2 : x = i
        · subst h2; simp
        · rw [if_neg h2, if_neg h2]
          have e2 : (i == x) = false := by simp; omega
          rw [e2]; simp
    · have e3 : ((J.gr.aft i).take (k + 1)).count a = ((J.gr.aft i).take k).count a := by rw [hx a, if_neg (fun h => e h.symm), Nat.add_zero]
      rw [Gr.put_ne _ _ e, h0, e3]
  few a ha := by
    have h0 := h.few a ha
    by_cases e : a = (J.gr.aft i)[k]
    · rw [← e, Gr.put_at, List.length_append]; simp; omega
    · rw [Gr.put_ne _ _ e]; omega

theorem behTo_end {J : Jb} {bh : Nat → List Nat} (h : BehTo J J.n 0 bh) (hn : J.n ≤ 200) : Beh J bh where
  cnt a ha x := by
    rw [h.cnt a ha x]
    by_cases h1 : x < J.n
    · rw [if_pos h1, if_pos h1]
    · rw [if_neg h1, if_neg h1]
      split <;> simp
  few a ha := by have := h.few a ha; omega

/-- Those that waited for this one alone. -/
structure Ov (lf : Nat → Nat) (b nl : List Nat) : Prop where
  nd : nl.Nodup
  mem : ∀ i, i ∈ nl ↔ 0 < b.count i ∧ lf i = b.count i

theorem ov_start (lf : Nat → Nat) : Ov lf [] [] := ⟨List.nodup_nil, fun i => by simp⟩

theorem ov_yes {lf : Nat → Nat} {b nl : List Nat} (h : Ov lf b nl) {x : Nat} (hx : lf x = b.count x + 1) : Ov lf (b ++ [x]) (nl ++ [x]) where
  nd := by
    rw [List.nodup_append]
    refine ⟨h.nd, by simp, ?_⟩
    intro a ha y hy e
    rw [List.mem_singleton] at hy
    subst hy; subst e
    have := ((h.mem a).1 ha).2
    omega
  mem i := by
    rw [List.mem_append, h.mem i, List.count_append, List.count_singleton, List.mem_singleton]
    by_cases e : i = x
    · subst e; simp; omega
    · have e2 : (x == i) = false := by simp; omega
      rw [e2]; simp [e]

theorem ov_no {lf : Nat → Nat} {b nl : List Nat} (h : Ov lf b nl) {x : Nat} (hx : lf x ≠ b.count x + 1) (hle : b.count x + 1 ≤ lf x) : Ov lf (b ++ [x]) nl where
  nd := h.nd
  mem i := by
    rw [h.mem i, List.count_append, List.count_singleton]
    by_cases e : i = x
    · subst e; simp; omega
    · have e2 : (x == i) = false := by simp; omega
      rw [e2]; simp

/-- Is it in the list? -/
def inl (l : List Nat) (x : Nat) : Bool := decide (x ∈ l)

theorem inl_snoc (l : List Nat) (j : Nat) : inl (l ++ [j]) = Gr.put (inl l) j true := by
  funext x
  unfold inl Gr.put
  by_cases e : x = j
  · subst e; simp
  · simp [e]

theorem undone_congr {J : Jb} {D D' : Nat → Bool} (h : ∀ i, D i = D' i) : undone J D = undone J D' := by
  have : D = D' := funext h
  rw [this]

theorem undone_list (J : Jb) : ∀ l : List Nat, l.Nodup → (∀ x ∈ l, x < J.n) → undone J (inl l) + l.length = J.n
  | [], _, _ => by
    rw [undone_congr (D' := fun _ => false) (fun i => by simp [inl]), undone_all]; rfl
  | x :: l, hn, hl => by
    obtain ⟨h1, h2⟩ := List.nodup_cons.1 hn
    have ih := undone_list J l h2 fun y hy => hl y (List.mem_cons_of_mem _ hy)
    have e : undone J (inl (x :: l)) = undone J (Gr.put (inl l) x true) := undone_congr fun i => by
      unfold inl Gr.put
      by_cases e : i = x
      · subst e; simp
      · simp [e]
    have := undone_put (J := J) (D := inl l) (hl x List.mem_cons_self) (by simp [inl, h1])
    rw [e, List.length_cons]
    omega

/-- Jobs in an order, each behind its After: i of them have been looked at. -/
structure OrdS (J : Jb) (ol : List Nat) (i : Nat) : Prop where
  nd : ol.Nodup
  lt : ∀ x ∈ ol, x < J.n
  le : i ≤ ol.length
  mem : ∀ x, x < J.n → (x ∈ ol ↔ lfO J (inl (ol.take i)) x = 0)
  ahead : ∀ k (h : k < ol.length), ∀ a ∈ J.gr.aft ol[k], a ∈ ol.take k

/-- The jobs that wait for none. -/
def freeTo (J : Jb) (k : Nat) : List Nat := (List.range k).filter fun i => (J.aft i).length == 0

theorem freeTo_yes {J : Jb} {k : Nat} (h : (J.aft k).length = 0) : freeTo J (k + 1) = freeTo J k ++ [k] := by
  unfold freeTo
  rw [List.range_succ, List.filter_append]
  simp [h]
theorem freeTo_no {J : Jb} {k : Nat} (h : (J.aft k).length ≠ 0) : freeTo J (k + 1) = freeTo J k := by
  unfold freeTo
  rw [List.range_succ, List.filter_append]
  have e : ((J.aft k).length == 0) = false := by simpa using h
  simp [e]
theorem freeTo_len (J : Jb) (k : Nat) : (freeTo J k).length ≤ k := by
  unfold freeTo
  have := List.length_filter_le (fun i => (J.aft i).length == 0) (List.range k)
  rw [List.length_range] at this
  exact this
theorem freeTo_mem {J : Jb} {k i : Nat} : i ∈ freeTo J k ↔ i < k ∧ (J.aft i).length = 0 := by
  unfold freeTo
  simp [List.mem_filter]
theorem freeTo_nd (J : Jb) (k : Nat) : (freeTo J k).Nodup := List.nodup_range.filter _

theorem ordS_start (J : Jb) : OrdS J (freeTo J J.n) 0 where
  nd := freeTo_nd J _
  lt x hx := (freeTo_mem.1 hx).1
  le := Nat.zero_le _
  mem x hx := by
    rw [freeTo_mem, List.take_zero]
    have e : inl [] = fun _ => false := by funext y; simp [inl]
    rw [e, lf_none]
    exact ⟨fun h => h.2, fun h => ⟨hx, h⟩⟩
  ahead k h a ha := by
    have h1 := (freeTo_mem.1 (List.getElem_mem h)).2
    rw [List.length_eq_zero_iff] at h1
    have : J.gr.aft (freeTo J J.n)[k] = [] := by show (J.aft _).map _ = _; rw [h1]; rfl
    rw [this] at ha
    cases ha

theorem inl_next {ol : List Nat} {i : Nat} (hi : i < ol.length) : inl (ol.take (i + 1)) = Gr.put (inl (ol.take i)) ol[i] true := by
  rw [List.take_succ_eq_append_getElem hi, inl_snoc]

theorem nodup_take {ol : List Nat} (h : ol.Nodup) {i : Nat} (hi : i < ol.length) : inl (ol.take i) ol[i] = false := by
  have h1 : (ol.take i ++ [ol[i]]).Nodup := by
    rw [← List.take_succ_eq_append_getElem hi]
    exact h.sublist (List.take_sublist _ _)
  rw [List.nodup_append] at h1
  unfold inl
  rw [decide_eq_false_iff_not]
  intro hm
  exact h1.2.2 _ hm _ (List.mem_singleton.2 rfl) rfl

theorem OrdS.next {J : Jb} {ol nl : List Nat} {i : Nat} {bh : Nat → List Nat} (h : OrdS J ol i) (hb : Beh J bh) (hi : i < ol.length) (ho : Ov (lfO J (inl (ol.take i))) (bh ol[i]) nl) :
    OrdS J (ol ++ nl) (i + 1) ∧ ∀ x, x < J.n → lfO J (inl ((ol ++ nl).take (i + 1))) x = lfO J (inl (ol.take i)) x - (bh ol[i]).count x := by
  have hj : ol[i] < J.n := h.lt _ (List.getElem_mem hi)
  have hO := nodup_take h.nd hi
  have et : (ol ++ nl).take (i + 1) = ol.take (i + 1) := List.take_append_of_le_length (by omega)
  have hlf : ∀ x, x < J.n → lfO J (inl ((ol ++ nl).take (i + 1))) x = lfO J (inl (ol.take i)) x - (bh ol[i]).count x := by
    intro x hx
    rw [et, inl_next hi]
    have h1 := lf_put (J := J) hO x
    have h2 := hb.cnt ol[i] hj x
    rw [if_pos hx] at h2
    omega
  have hle : ∀ x, (bh ol[i]).count x ≤ lfO J (inl (ol.take i)) x := fun x => hb.le hj hO x
  have hnl : ∀ x ∈ nl, x < J.n := fun x hx => hb.lt hj (List.count_pos_iff.1 ((ho.mem x).1 hx).1)
  refine ⟨⟨?_, ?_, by rw [List.length_append]; omega, ?_, ?_⟩, hlf⟩
  · rw [List.nodup_append]
    refine ⟨h.nd, ho.nd, ?_⟩
    intro a ha b hb' e
    subst e
    have h1 := (h.mem a (h.lt a ha)).1 ha
    have h2 := (ho.mem a).1 hb'
    omega
  · intro x hx
    rcases List.mem_append.1 hx with h1 | h1
    · exact h.lt x h1
    · exact hnl x h1
  · intro x hx
    rw [hlf x hx, List.mem_append, h.mem x hx, ho.mem x]
    have := hle x
    omega
  · intro k hk a ha
    by_cases hk1 : k < ol.length
    · rw [List.getElem_append_left hk1] at ha
      rw [List.take_append_of_le_length (by omega)]
      exact h.ahead k hk1 a ha
    · rw [List.getElem_append_right (by omega)] at ha
      have hkl : k - ol.length < nl.length := by rw [List.length_append] at hk; omega
      have hm : nl[k - ol.length] ∈ nl := List.getElem_mem _
      have h1 := (ho.mem _).1 hm
      have h2 : lfO J (inl ((ol ++ nl).take (i + 1))) nl[k - ol.length] = 0 := by rw [hlf _ (hnl _ hm)]; omega
      have h3 := lf_zero'.1 h2 a ha
      rw [et] at h3
      have h4 : a ∈ ol.take (i + 1) := by unfold inl at h3; exact of_decide_eq_true h3
      have h5 : a ∈ ol := List.mem_of_mem_take h4
      rw [List.take_append]
      rw [List.take_of_length_le (show ol.length ≤ k by omega)]
      exact List.mem_append_left _ h5

/-- In the end: all, or there is no order. -/
theorem OrdS.all {J : Jb} {ol : List Nat} (h : OrdS J ol ol.length) (hl : ol.length = J.n) : ∀ x, x < J.n → x ∈ ol := by
  have h1 := undone_list J ol h.nd h.lt
  intro x hx
  have := undone_zero (J := J) (D := inl ol) (by omega) x hx
  exact of_decide_eq_true this

theorem OrdS.len_le {J : Jb} {ol : List Nat} {i : Nat} (h : OrdS J ol i) : ol.length ≤ J.n := by
  have h1 := undone_list J ol h.nd h.lt
  omega

theorem OrdS.acyc {J : Jb} {ol : List Nat} (h : OrdS J ol ol.length) (hl : ol.length = J.n) : J.Acyc := by
  refine ⟨fun x => ol.idxOf x, fun i hi => ?_⟩
  have hm := h.all hl i hi
  have hlt : ol.idxOf i < ol.length := List.idxOf_lt_length_iff.2 hm
  refine ⟨by show ol.idxOf i < J.n; omega, fun a ha => ?_⟩
  show ol.idxOf a.toNat < ol.idxOf i
  have hg : ol[ol.idxOf i] = i := List.getElem_idxOf hlt
  have h1 := h.ahead _ hlt a.toNat (by rw [hg]; exact List.mem_map_of_mem ha)
  have h2 : (ol.take (ol.idxOf i)).idxOf a.toNat < (ol.take (ol.idxOf i)).length := List.idxOf_lt_length_iff.2 h1
  have h3 : ol.idxOf a.toNat = (ol.take (ol.idxOf i)).idxOf a.toNat := by
    have e := List.take_append_drop (ol.idxOf i) ol
    have : (ol.take (ol.idxOf i) ++ ol.drop (ol.idxOf i)).idxOf a.toNat = (ol.take (ol.idxOf i)).idxOf a.toNat := by
      rw [List.idxOf_append, if_pos h1]
    rw [e] at this
    exact this
  rw [List.length_take] at h2
  omega

theorem OrdS.cyc {J : Jb} (hg : J.Good) {ol : List Nat} (h : OrdS J ol ol.length) (hl : ol.length < J.n) : ¬ J.Acyc := by
  have h1 := undone_list J ol h.nd h.lt
  refine no_order hg (D := inl ol) (fun i hi hD => ?_) (by omega)
  have h2 := h.mem i hi
  rw [List.take_of_length_le (Nat.le_refl _)] at h2
  cases ha : adB (inl ol) (J.aft i) with
  | false => rfl
  | true =>
    have h3 := h2.2 (lf_zero.2 ha)
    unfold inl at hD
    exact absurd h3 (of_decide_eq_false hD)

#print axioms OrdS.next
#print axioms OrdS.acyc
#print axioms OrdS.cyc
#print axioms behTo_one
end Go.Proofs.Ytgmemndjclhheae
