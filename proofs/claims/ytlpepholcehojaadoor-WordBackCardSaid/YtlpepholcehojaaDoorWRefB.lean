/- The reference's Reduce, Invert, Mul, Conj, Comm (seat ZD alone). -/
import Derived.Test.YtlpepholcehojaaDoorWRefA
import Derived.Test.YtlpepholcehojaaDoorWOps
namespace Go.Proofs.YtlpepholcehojaaDoor
open Go Go.RowKit

end Go.Proofs.YtlpepholcehojaaDoor