/- cayleykit.Own (a text of its own: the great seat has no letters). -/
import Derived.Test.YtlpepholcehojaaDoorWReads
namespace Go.Proofs.YtlpepholcehojaaDoor
open Go Go.RowKit

end Go.Proofs.YtlpepholcehojaaDoor