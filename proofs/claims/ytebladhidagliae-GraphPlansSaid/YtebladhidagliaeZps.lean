/-
  OUR OWN TEXT. GraphPlans over the landed code: the full statement.
-/
import Derived.Test.YtebladhidagliaeRowS
import Derived.Test.YtebladhidagliaeNs
namespace Go.Proofs.Ytebladhidagliae

theorem plans_said : Rows.GraphPlansSaid := plans_full plan_says span_says

#print axioms plans_said
end Go.Proofs.Ytebladhidagliae
