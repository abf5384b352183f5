/-
  OUR OWN TEXT. GraphPlans over the landed code: the full statement.
-/
import Derived.Test.YtgmemndjclhheaeRowS
import Derived.Test.YtgmemndjclhheaeNs
namespace Go.Proofs.Ytgmemndjclhheae

theorem plans_said : Rows.GraphPlansSaid := plans_full plan_says span_says

#print axioms plans_said
end Go.Proofs.Ytgmemndjclhheae
