/-
  Contracts of package integer and of its reference: Mod.
-/
import Derived.Test.YtjbcicgbemepbaaDoorInt10
namespace Go.Proofs.YtjbcicgbemepbaaDoor
open Go.RowKit
set_option linter.unusedVariables false

theorem Two.newD (w : World) (c0 c1 : Value) (t : TypeId) (g : Nat) (hg : g = w.heap.size) : Two (w.alloc (.cells #[c0, c1] t)).drew g c0 c1 := Two.new w c0 c1 t g hg
theorem Two.allocD {w : World} {g : Nat} {c0 c1 : Value} (h : Two w g c0 c1) (o : Obj) : Two (w.alloc o).drew g c0 c1 := h.alloc o
theorem Two.drewD {w : World} {g : Nat} {c0 c1 : Value} (h : Two w g c0 c1) : Two w.drew g c0 c1 := h

end Go.Proofs.YtjbcicgbemepbaaDoor
