/-
  OUR OWN TEXT. GraphPlans: the full statement, out of its walk: what was read takes at most 2^47 - 4096 bytes a slice.
-/
import Derived.Test.YtgmemndjclhheaeLaw
import Derived.Test.YtgmemndjclhheaeOpen
import Derived.SizedLaws
import Derived.OpenShut
import Derived.JoinedCond
namespace Go.Proofs.Ytgmemndjclhheae
open Go.ChangeShapes Go.WideShapes Go.ChangeAt Go.RowKit

theorem Try.ownP : ownKnob Try.prog.godebug = none := by kernel_rfl
theorem Try.laidOutP : laidOutB Try.prog = true := by kernel_rfl
theorem Try.bytesJobP : Try.prog.bytesOf 58 = 48 := by kernel_rfl

set_option maxRecDepth 100000 in
theorem plans_contractS (hP : PlanSays) (hS : SpanSays) (H : Type) (enc : TypeId × Value → H) (W : World) (base : Nat) (args : Array Value) (ds gs : List (DataW H)) (before : List MemPlace)
    (hval : ∀ (j : Nat) t v, Try.f7.params[j]? = some t → args[j]? = some v → Value.okWide Try.prog W .any base t v)
    (hW : DataW.Whole enc Try.prog Try.f7.params.toList Rows.graphPlansSpec.vars false W args.toList ds gs before)
    (hsz : (DataW.weightsEach Try.prog (Try.f7.params.toList ++ Rows.graphPlansSpec.plain.varTypes Try.prog) (ds ++ gs)).all (· ≤ reachBytes) = true) :
    Calls Try.prog 7 args W fun e W' => ∃ v, e = .returned v ∧ Rows.graphPlansSpec.post enc Try.prog Try.f7 false true false false W args v W' := by
  have hW' := hW
  have hlt := hW.lt
  obtain ⟨p, q, hA0, hV, rfl, hfz, hnd⟩ := hW
  have hA : DataW.TrodAll enc Try.prog W 0 (fun _ => true) true Try.f7.params.toList args.toList ds p := hA0
  rw [Try.params7] at hA hval hsz
  obtain ⟨v0, v1, d0, d1, p0, p1, rfl, rfl, rfl, h0, h1⟩ := trodAll_two hA
  obtain ⟨rfl, rfl⟩ := trodVars_none hV
  clear hA0
  simp only [List.append_nil] at hW' hlt
  have k0 := h0
  have k1 := h1
  obtain ⟨a0, len, cap, rfl⟩ := okWide_slice Try.underlying42 (hval 0 42 v0 rfl rfl)
  obtain ⟨fuel, hf⟩ := h0
  obtain ⟨J, v, hcl, hin, hn, haf, hrg, hel⟩ := jobs_open hf
  obtain rfl : Value.slice a0 len cap = v := by simpa [Value.cells] using hcl
  obtain ⟨m, rfl, rfl, rfl, wm⟩ := open_int Try.underlying3 (hval 1 3 v1 rfl rfl) h1
  have hJn : J.n ≤ 2932031007317 := by
    rcases hel with h | ⟨el, sp, h, h2⟩
    · omega
    · have h3 : d0 = .slice el sp := h
      have := sized_slice hsz (j := 0) (t := 42) (e := 58) (elems := el) (spare := sp) rfl (by rw [h3]; rfl) Try.underlying42
      rw [Try.bytesJobP] at this
      simp only [reachBytes] at this
      omega
  have hJa : ∀ i, i < J.n → (J.aft i).length ≤ 9223372036854775807 := fun i hi => by
    obtain ⟨_, _, _, _, _, cell⟩ := hin
    obtain ⟨_, _, s, _, _, _, _, _, _, aa, acap, _, h1, h2, _⟩ := cell i hi
    unfold maxLen at h2
    omega
  refine (plans_walk hP hS J W W.heap.size _ m hin (Nat.le_refl _) ⟨hJn, hJa, hrg⟩).mono fun e W' ⟨he, hb⟩ => ?_
  subst he
  refine ⟨_, rfl, _, _, _, [], p0 ++ ([] ++ []), [], hW', ?_, ?_, rfl, hb.frame _, fun h => by cases h⟩
  · exact trodAll_cons_mk (shut_bool Try.underlying4 _) trodAll_mk0
  · exact trodAll_cons_mk (Below.trod Try.laidOutP (by kernel_rfl) (of_decide_eq_true (by kernel_rfl)) k0 hb fun x hx => hlt x (by simp [hx])) (trodAll_cons_mk (Below.trod Try.laidOutP (by kernel_rfl) (of_decide_eq_true (by kernel_rfl)) k1 hb fun x hx => by cases hx) trodAll_mk0)

set_option maxRecDepth 100000 in
theorem plans_liftedS (hP : PlanSays) (hS : SpanSays) (os : Os) (started : os.Started) (H : Type) (enc : TypeId × Value → H) :
    ReturnsInHanded {} Try.checked os 7 .any (Rows.graphPlansSpec.pre6 enc Try.prog Try.f7 Rows.graphPlansRow.domain false) (Rows.graphPlansSpec.post enc Try.prog Try.f7 false true false false) := by
  refine returnsInHanded_of_change_sized (C := Try.checked) Try.ownP started (by kernel_rfl) Try.func7
    (ChangeSpec.witness6 (enc := enc) (C := Try.checked) (s := Rows.graphPlansSpec) false ⟨#[], #[.slice none 0 0, .int .i64 1], []⟩ 8 (by kernel_rfl) (by kernel_rfl) (by kernel_rfl) (by kernel_rfl)) ?_
  intro W base args ds gs before hval hW _ hsz _
  exact plans_contractS hP hS H enc W base args ds gs before hval hW hsz

theorem plans_full (hP : PlanSays) (hS : SpanSays) : Rows.GraphPlansSaid :=
  OpenClaim.holds_of_wide 7 Try.f7 rfl rfl rfl rfl rfl rfl rfl ⟨rfl, rfl, rfl, rfl, rfl⟩ rfl rfl rfl rfl rfl (by kernel_rfl) Try.func7 (by kernel_rfl)
    (of_decide_eq_true (by kernel_rfl)) (by unfold Func.isWrapper; first | (rw [if_pos (by decide +kernel)]; kernel_rfl) | (rw [if_neg (by decide +kernel)]; exact ⟨rfl, rfl⟩))
    (fun os started H enc _ => plans_liftedS hP hS os started H enc)

#print axioms plans_full
end Go.Proofs.Ytgmemndjclhheae
