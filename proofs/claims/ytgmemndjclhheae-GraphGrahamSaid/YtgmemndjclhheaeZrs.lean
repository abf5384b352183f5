/-
  OUR OWN TEXT. GraphGraham over the landed code: the full statement.
-/
import Derived.Test.YtgmemndjclhheaeGRowS
import Derived.Test.YtgmemndjclhheaeLk
import Derived.Test.YtgmemndjclhheaeNs
namespace Go.Proofs.Ytgmemndjclhheae

theorem graham_said : Rows.GraphGrahamSaid := by
  obtain ⟨c, hc⟩ : ∃ c : Jb → Int, ∀ J : Jb, J.Chk (c J) := ⟨fun J => Classical.choose (chk_some J), fun J => Classical.choose_spec (chk_some J)⟩
  exact graham_full (planSaid_of hc plan_says) (spanSaid_of hc span_says)

#print axioms graham_said
end Go.Proofs.Ytgmemndjclhheae
