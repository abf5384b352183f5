/-
  OUR OWN TEXT. GraphGraham: the full statement, out of its walk: what was read takes at most 2^47 - 4096 bytes a slice.
-/
import Derived.Test.YtgmemndjclhheaeGw
import Derived.Test.YtgmemndjclhheaeOpen
import Derived.SizedLaws
import Derived.OpenShut
import Derived.JoinedCond
namespace Go.Proofs.Ytgmemndjclhheae
open Go.ChangeShapes Go.WideShapes Go.ChangeAt Go.RowKit

theorem Try.ownQ : ownKnob Try.prog.godebug = none := by kernel_rfl
theorem Try.laidOutQ : laidOutB Try.prog = true := by kernel_rfl
theorem Try.bytesJobQ : Try.prog.bytesOf 58 = 48 := by kernel_rfl

set_option maxRecDepth 100000 in
theorem graham_contractS {c : Jb → Int} (hP : PlanSaid c) (hS : SpanSaid c) (H : Type) (enc : TypeId × Value → H) (W : World) (base : Nat) (args : Array Value) (ds gs : List (DataW H)) (before : List MemPlace)
    (hval : ∀ (j : Nat) t v, Try.f8.params[j]? = some t → args[j]? = some v → Value.okWide Try.prog W .any base t v)
    (hW : DataW.Whole enc Try.prog Try.f8.params.toList Rows.graphGrahamSpec.vars false W args.toList ds gs before)
    (hsz : (DataW.weightsEach Try.prog (Try.f8.params.toList ++ Rows.graphGrahamSpec.plain.varTypes Try.prog) (ds ++ gs)).all (· ≤ reachBytes) = true) :
    Calls Try.prog 8 args W fun e W' => ∃ v, e = .returned v ∧ Rows.graphGrahamSpec.post enc Try.prog Try.f8 false true false false W args v W' := by
  have hW' := hW
  have hlt := hW.lt
  obtain ⟨p, q, hA0, hV, rfl, hfz, hnd⟩ := hW
  have hA : DataW.TrodAll enc Try.prog W 0 (fun _ => true) true Try.f8.params.toList args.toList ds p := hA0
  rw [Try.params8] at hA hval hsz
  obtain ⟨v0, v1, d0, d1, p0, p1, rfl, rfl, rfl, h0, h1⟩ := trodAll_two hA
  obtain ⟨rfl, rfl⟩ := trodVars_none hV
  clear hA0
  simp only [List.append_nil] at hW' hlt
  have k0 := h0
  have k1 := h1
  obtain ⟨a0, len, cap, rfl⟩ := okWide_slice Try.underlying42 (hval 0 42 v0 rfl rfl)
  obtain ⟨fuel, hf⟩ := h0
  obtain ⟨J, v, hcl, hin, hn, haf, hrg, hel⟩ := jobs_open hf
  obtain rfl : Value.slice a0 len cap = v := by simpa [Value.cells] using hcl
  obtain ⟨m, rfl, rfl, rfl, wm⟩ := open_int Try.underlying3 (hval 1 3 v1 rfl rfl) h1
  have hJn : J.n ≤ 2932031007317 := by
    rcases hel with h | ⟨el, sp, h, h2⟩
    · omega
    · have h3 : d0 = .slice el sp := h
      have := sized_slice hsz (j := 0) (t := 42) (e := 58) (elems := el) (spare := sp) rfl (by rw [h3]; rfl) Try.underlying42
      rw [Try.bytesJobQ] at this
      simp only [reachBytes] at this
      omega
  have hJa : ∀ i, i < J.n → (J.aft i).length ≤ 9223372036854775807 := fun i hi => by
    obtain ⟨_, _, _, _, _, cell⟩ := hin
    obtain ⟨_, _, s, _, _, _, _, _, _, aa, acap, _, h1, h2, _⟩ := cell i hi
    unfold maxLen at h2
    omega
  refine (graham_walk hP hS J W W.heap.size _ m hin (Nat.le_refl _) ⟨hJn, hJa, hrg⟩).mono fun e W' ⟨he, hb⟩ => ?_
  subst he
  refine ⟨_, rfl, _, _, _, [], p0 ++ ([] ++ []), [], hW', ?_, ?_, rfl, hb.frame _, fun h => by cases h⟩
  · exact trodAll_cons_mk (shut_bool Try.underlying4 _) trodAll_mk0
  · exact trodAll_cons_mk (Below.trod Try.laidOutQ (by kernel_rfl) (of_decide_eq_true (by kernel_rfl)) k0 hb fun x hx => hlt x (by simp [hx])) (trodAll_cons_mk (Below.trod Try.laidOutQ (by kernel_rfl) (of_decide_eq_true (by kernel_rfl)) k1 hb fun x hx => by cases hx) trodAll_mk0)

set_option maxRecDepth 100000 in
theorem graham_liftedS {c : Jb → Int} (hP : PlanSaid c) (hS : SpanSaid c) (os : Os) (started : os.Started) (H : Type) (enc : TypeId × Value → H) :
    ReturnsInHanded {} Try.checked os 8 .any (Rows.graphGrahamSpec.pre6 enc Try.prog Try.f8 Rows.graphGrahamRow.domain false) (Rows.graphGrahamSpec.post enc Try.prog Try.f8 false true false false) := by
  refine returnsInHanded_of_change_sized (C := Try.checked) Try.ownQ started (by kernel_rfl) Try.func8
    (ChangeSpec.witness6 (enc := enc) (C := Try.checked) (s := Rows.graphGrahamSpec) false ⟨#[], #[.slice none 0 0, .int .i64 1], []⟩ 8 (by kernel_rfl) (by kernel_rfl) (by kernel_rfl) (by kernel_rfl)) ?_
  intro W base args ds gs before hval hW _ hsz _
  exact graham_contractS hP hS H enc W base args ds gs before hval hW hsz

theorem graham_full {c : Jb → Int} (hP : PlanSaid c) (hS : SpanSaid c) : Rows.GraphGrahamSaid :=
  OpenClaim.holds_of_wide 8 Try.f8 rfl rfl rfl rfl rfl rfl rfl ⟨rfl, rfl, rfl, rfl, rfl⟩ rfl rfl rfl rfl rfl (by kernel_rfl) Try.func8 (by kernel_rfl)
    (of_decide_eq_true (by kernel_rfl)) (by unfold Func.isWrapper; first | (rw [if_pos (by decide +kernel)]; kernel_rfl) | (rw [if_neg (by decide +kernel)]; exact ⟨rfl, rfl⟩))
    (fun os started H enc _ => graham_liftedS hP hS os started H enc)

#print axioms graham_full
end Go.Proofs.Ytgmemndjclhheae
