/- Contracts of the laws' functions that compare, mark and hold what comes of a run, over this seat's translation: only its row of numbers leads to memory; marking turns that row's own block alone. Condition: at most 1048576 numbers. -/
import Derived.Test.YtopplljilmjjgaaObl
import Derived.Test.YtopplljilmjjgaaInto
import Derived.Handy
namespace Go.Proofs.Ytopplljilmjjgaa
open Go.RowKit Go.Sort
namespace Rnw
abbrev ranV (c : Int) (o : ByteArray) (v : Value) : Value := .agg #[.int .i64 c, .string o, v]


end Rnw
end Go.Proofs.Ytopplljilmjjgaa
