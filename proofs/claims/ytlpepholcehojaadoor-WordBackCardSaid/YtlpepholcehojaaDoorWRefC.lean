/- The reference's Mul, Invert, Conj, Comm (seat ZD alone). -/
import Derived.Test.YtlpepholcehojaaDoorWRefB
namespace Go.Proofs.YtlpepholcehojaaDoor
open Go Go.RowKit

end Go.Proofs.YtlpepholcehojaaDoor