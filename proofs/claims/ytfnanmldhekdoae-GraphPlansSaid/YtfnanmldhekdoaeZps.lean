/-
  OUR OWN TEXT. GraphPlans over the landed code: the full statement.
-/
import Derived.Test.YtfnanmldhekdoaeRowS
import Derived.Test.YtfnanmldhekdoaeNs
namespace Go.Proofs.Ytfnanmldhekdoae

theorem plans_said : Rows.GraphPlansSaid := plans_full plan_says span_says

#print axioms plans_said
end Go.Proofs.Ytfnanmldhekdoae
