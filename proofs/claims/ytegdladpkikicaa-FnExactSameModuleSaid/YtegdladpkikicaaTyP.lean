/-
  Types, plainly: a tree; and what of it is told by a walk through it. No program here.
-/
namespace Go.Proofs.Ytegdladpkikicaa

/-- a type as it is told: any tree of such fields -/
structure Ty where
  kind : Int
  name : ByteArray
  names : List ByteArray
  kids : List Ty

namespace Ty

/-- whether any is in it: to a depth -/
def hasAny : Nat → Ty → Bool
  | 0, _ => false
  | n + 1, t => t.kids.any (hasAny n) || decide (t.kind = 3)

/-- how many bytes texts have in all -/
def textsBulk : List ByteArray → Nat
  | [] => 0
  | t :: r => t.size + textsBulk r

/-- how much it holds: to a depth -/
def bulk : Nat → Ty → Nat
  | 0, _ => 0
  | n + 1, t => t.name.size + (t.names.length + textsBulk t.names) + (t.kids.length + (t.kids.map (bulk n)).sum)

end Ty

end Go.Proofs.Ytegdladpkikicaa
