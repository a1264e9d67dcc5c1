/- The reference of layer 2 (seat ZD alone): cancel, inverse, Reduce, turned, join. -/
import Derived.Test.YtlpepholcehojaaDoorWReads
import Derived.Test.YtlpepholcehojaaDoorWEnds
namespace Go.Proofs.YtlpepholcehojaaDoor
open Go Go.RowKit

end Go.Proofs.YtlpepholcehojaaDoor