/-
  OUR OWN TEXT. What GraphPlans asks of Plan and Span gives what GraphGraham asks of them.
-/
import Derived.Test.YtgmemndjclhheaeRes
namespace Go.Proofs.Ytgmemndjclhheae
open Go.RowKit

theorem planSaid_of {c : Jb → Int} (hcc : ∀ J : Jb, J.Chk (c J)) (h : PlanSays) : PlanSaid c := fun J w B v m hin hB hs => (h J w B v m hin hB hs).mono fun e w' hr => by
  obtain ⟨s, n, er, he, hR, hb⟩ := hr
  have hc := hcc J
  refine ⟨s, n, er, he, fun hne => ?_, fun h0 => ?_, hb⟩
  · by_cases c0 : c J = 0
    · rw [c0] at hc
      by_cases hm : 1 ≤ m ∧ m ≤ 16
      · exact absurd (hR.plan hc hm.1 hm.2).1 hne
      · obtain ⟨_, a, ao, cp, b⟩ := hR.few hc hm
        exact ⟨ao, cp, b, a⟩
    · obtain ⟨_, a, ao, cp, b⟩ := hR.wrong _ hc c0
      exact ⟨ao, cp, b, a⟩
  · have c0 : c J = 0 := by
      by_cases c0 : c J = 0
      · exact c0
      · have := (hR.wrong _ hc c0).1
        omega
    rw [c0] at hc
    have hm : 1 ≤ m ∧ m ≤ 16 := by
      by_cases hm : 1 ≤ m ∧ m ≤ 16
      · exact hm
      · have := (hR.few hc hm).1
        omega
    obtain ⟨_, Bg, Wk, E, a1, a2, a3, a4, a5⟩ := hR.plan hc hm.1 hm.2
    exact ⟨c0, hm.1, hm.2, Bg, Wk, E, a1, a2.plan a3 a4, a5⟩
theorem spanSaid_of {c : Jb → Int} (hcc : ∀ J : Jb, J.Chk (c J)) (h : SpanSays) : SpanSaid c := fun J w B v hin hB hs => (h J w B v hin hB hs).mono fun e w' hr => by
  obtain ⟨wk, sp, er, he, hR, hb⟩ := hr
  have hc := hcc J
  have ee : er = c J := hR.chk.only hc
  rw [ee] at he hR
  refine ⟨wk, sp, he, fun h0 => ?_, hb⟩
  rw [h0] at hc
  exact ⟨hc.right.1, hR.right h0⟩

#print axioms planSaid_of
#print axioms spanSaid_of
end Go.Proofs.Ytgmemndjclhheae
