/-
  OUR OWN TEXT. GraphPlans over the landed code.
-/
import Derived.Test.YtpedhnpklnlnkaeRow
import Derived.Test.YtpedhnpklnlnkaeNs
namespace Go.Proofs.Ytpedhnpklnlnkae

theorem plans_all : Rows.GraphPlansUptoSaid := plans_holds plan_says span_says

#print axioms plans_all
end Go.Proofs.Ytpedhnpklnlnkae
