/- Package element's table, as it is laid. No program. -/
import Derived.Test.YtijlekikmkeihaaDoorEleMath
namespace Go.Proofs.YtijlekikmkeihaaDoor
set_option linter.unusedVariables false

def FRow.cells (r : FRow) : List Value := [.int .i64 r.no, .int .i64 r.kind, .int .i64 (r.dig : Int), .int .i64 (r.top : Int), .bool r.spare]
def FRow.val (r : FRow) : Value := .agg #[.int .i64 r.no, .int .i64 r.kind, .int .i64 (r.dig : Int), .int .i64 (r.top : Int), .bool r.spare]
def eleV : List Value := elT.flatMap FRow.cells
end Go.Proofs.YtijlekikmkeihaaDoor
