/-
  OUR OWN TEXT. A region that draws its order, by what is kept: WHATEVER HAS BEEN DONE SO FAR, Inv holds; each operation whose time may have come keeps it. One goal an operation, not one an order.
-/
import Derived.Deep.RegionHeld3
namespace Go.Proofs.Ytgmemndjclhheae
open Go

section
variable {P : Program} {ops : Array Oper} {Q : Exit → Act → World → Prop} {md : Region.Mode}

/-- Does operation e wait for operation i? -/
def waits (md : Region.Mode) (ops : Array Oper) (e i : Nat) : Bool := ((ops[e]?).map (·.after.any fun d => Region.binds md d && d.on == i)).getD false

/-- Each waits for earlier ones alone. -/
def inTurn (ops : Array Oper) : Bool := (List.range ops.size).all fun j => ((ops[j]?).map (·.after.all fun d => decide (d.on < j))).getD true

theorem count_set (l : List Bool) (i : Nat) (h : l[i]? = some false) : (l.set i true).count false + 1 = l.count false := by
  induction l generalizing i with
  | nil => simp at h
  | cons x l ih =>
    cases i with
    | zero =>
      have e : x = false := by simpa using h
      subst e
      rw [List.set_cons_zero, List.count_cons, List.count_cons]
      simp
    | succ i =>
      rw [List.set_cons_succ, List.count_cons, List.count_cons]
      have := ih i (by simpa using h)
      omega

theorem ready_false {L : Array Bool} {i : Nat} (h : i ∈ Region.ready md ops L) : L.toList[i]? = some false := by
  have h1 := (mem_ready.1 h).1
  rw [Array.getElem?_toList]
  by_cases hi : i < L.size
  · rw [Array.getElem?_eq_getElem hi]
    simp [hi] at h1
    rw [h1]
  · simp [hi] at h1

theorem wpAny_inv {Inv : Array Bool → Act → World → Prop} (hs : ∀ L a w, L.size = ops.size → Inv L a w → ∀ i, i ∈ Region.ready md ops L → wpOp P ops Q i (Inv (L.setIfInBounds i true)) a w)
    (hd : ∀ L a w, L.size = ops.size → Inv L a w → Region.ready md ops L = [] → Q .normal a w) :
    ∀ (fuel : Nat) (L : Array Bool) (a : Act) (w : World), L.size = ops.size → L.toList.count false ≤ fuel → Inv L a w → wpAny P md ops Q fuel L a w
  | 0, L, a, w, h1, h2, h3 => by
    have h0 : Region.ready md ops L = [] := by
      cases hr : Region.ready md ops L with
      | nil => rfl
      | cons i rs =>
        have hi : i ∈ Region.ready md ops L := by rw [hr]; exact List.mem_cons_self
        have := count_set _ _ (ready_false hi)
        omega
    exact ⟨h0, hd L a w h1 h3 h0⟩
  | fuel + 1, L, a, w, h1, h2, h3 => by
    refine ⟨fun h0 => hd L a w h1 h3 h0, fun i hi => wpOp_mono (fun a' w' h' => ?_) (hs L a w h1 h3 i hi)⟩
    refine wpAny_inv hs hd fuel _ a' w' (by simpa using h1) ?_ h'
    have := count_set _ _ (ready_false hi)
    rw [Array.toList_setIfInBounds]
    omega

theorem all_listed (hord : inTurn ops = true) {L : Array Bool} (hsz : L.size = ops.size) (h0 : Region.ready md ops L = []) : ∀ i, i < ops.size → L.getD i false = true := by
  intro i
  induction i using Nat.strongRecOn with
  | _ i ih =>
    intro hi
    cases hL : L.getD i false with
    | true => rfl
    | false =>
      exfalso
      have hm : i ∈ Region.ready md ops L := by
        refine mem_ready.2 ⟨?_, ops[i], Array.getElem?_eq_getElem hi, fun e he _ => ?_⟩
        · have h1 : i < L.size := by omega
          simp [h1] at hL ⊢
          exact hL
        · unfold inTurn at hord
          have h2 := List.all_eq_true.1 hord i (List.mem_range.2 hi)
          rw [Array.getElem?_eq_getElem hi] at h2
          simp only [Option.map_some, Option.getD_some, Array.all_eq_true_iff_forall_mem] at h2
          have h3 := of_decide_eq_true (h2 e he)
          exact ih e.on h3 (by omega)
      rw [h0] at hm
      cases hm

/-- THE RULE. -/
theorem wp_region_inv {id : Nat} {a : Act} {w : World} (Inv : (Nat → Bool) → Act → World → Prop) (hm : P.follows .mixedOrders = true) (hord : inTurn ops = true) (h0 : Inv (fun _ => false) a w.drew)
    (hs : ∀ (L : Nat → Bool) (a : Act) (w : World), Inv L a w → (∀ i j, waits .any ops i j = true → L i = true → L j = true) → ∀ i o, ops[i]? = some o → L i = false → (∀ j, waits .any ops i j = true → L j = true) →
      ∀ K' : Act → World → Prop, Shut (∀ a' w', Inv (fun k => if k = i then true else L k) a' w' → K' a' w') → if Region.wanted o (yielded ops a.tmps) = true then Oper.wp P o a w K' Q else K' (a.put o.dst undef) w)
    (hd : ∀ (L : Nat → Bool) (a : Act) (w : World), Inv L a w → (∀ i, i < ops.size → L i = true) → Q .normal a w) : (Code.region id ops true).wp P Q a w := by
  refine wp_region_any hm (wpAny_inv (Inv := fun L a w => Inv (fun i => L.getD i false) a w ∧ ∀ i j, waits .any ops i j = true → L.getD i false = true → L.getD j false = true) ?_ ?_ ops.size _ a _ (by simp) ?_ ?_)
  · rintro L a w hsz ⟨hI, hcl⟩ i hi
    obtain ⟨h1, o, ho, h2⟩ := mem_ready.1 hi
    have hil : i < L.size := by rw [hsz]; exact (Array.getElem?_eq_some_iff.1 ho).1
    have hpre : ∀ j, waits .any ops i j = true → L.getD j false = true := by
      intro j hj
      unfold waits at hj
      rw [ho] at hj
      simp only [Option.map_some, Option.getD_some, Array.any_eq_true, Bool.and_eq_true, beq_iff_eq] at hj
      obtain ⟨k, hk, hb, rfl⟩ := hj
      exact h2 _ (Array.getElem_mem hk) hb
    have hset : ∀ k, (L.setIfInBounds i true).getD k false = if k = i then true else L.getD k false := by
      intro k
      by_cases hk : k = i
      · subst hk
        simp [hil]
      · rw [if_neg hk, getD_set_ne false (fun h => hk h.symm)]
    refine wpOp_step ho fun K' hK => hs _ a w hI hcl i o ho ?_ hpre K' fun a' w' h' => hK a' w' ⟨?_, ?_⟩
    · simp [hil] at h1 ⊢
      exact h1
    · have e : (fun k => (L.setIfInBounds i true).getD k false) = fun k => if k = i then true else L.getD k false := funext hset
      rw [e]
      exact h'
    · intro k j hkj hk
      rw [hset] at hk ⊢
      by_cases hj : j = i
      · rw [if_pos hj]
      · rw [if_neg hj]
        by_cases hki : k = i
        · rw [hki] at hkj
          exact hpre j hkj
        · rw [if_neg hki] at hk
          exact hcl k j hkj hk
  · intro L a w hsz hI h0
    exact hd _ a w hI.1 (all_listed hord hsz h0)
  · rw [Array.toList_replicate]
    have := List.count_le_length (a := false) (l := List.replicate ops.size false)
    rw [List.length_replicate] at this
    exact this
  · have e : (fun i => (Array.replicate ops.size false).getD i false) = fun _ => false := by
      funext i
      by_cases hi : i < ops.size <;> simp [hi]
    refine ⟨by rw [e]; exact h0, fun i j _ h => ?_⟩
    have h2 : (Array.replicate ops.size false).getD i false = false := congrFun e i
    rw [h2] at h
    cases h
end

#print axioms wp_region_inv
end Go.Proofs.Ytgmemndjclhheae
