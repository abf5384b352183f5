/-
  OUR OWN TEXT. GraphGraham over the landed code.
-/
import Derived.Test.YtpedhnpklnlnkaeLink
import Derived.Test.YtpedhnpklnlnkaeNs
namespace Go.Proofs.Ytpedhnpklnlnkae

theorem graham_all : Rows.GraphGrahamUptoSaid := graham_of plan_says span_says

#print axioms graham_all
end Go.Proofs.Ytpedhnpklnlnkae
