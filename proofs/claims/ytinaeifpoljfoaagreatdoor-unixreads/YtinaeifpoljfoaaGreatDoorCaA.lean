import Derived.Test.YtinaeifpoljfoaaGreatDoorKinds
import Derived.Test.YtinaeifpoljfoaaGreatDoorCards
import Derived.Test.YtinaeifpoljfoaaGreatDoorTie
import Derived.ChangeOld
import Derived.ChangeSlices
import Derived.LaidMore
import Derived.Lay
import Derived.Stop.Joined
import Derived.MakeChecks
import Derived.Below
set_option linter.all false
set_option maxRecDepth 100000
set_option maxHeartbeats 16000000
namespace Go.Proofs.YtinaeifpoljfoaaGreatDoor
open Go.ChangeShapes Go.WideShapes Go.ChangeAt Go.RowKit Go.Lib
theorem own : ownKnob Tryz.prog.godebug = none := by kernel_rfl
theorem laidOut : laidOutB Tryz.prog = true := by kernel_rfl
theorem ask_card (k : Nat) (nm : String) (fn0 : Func) (ts : List TypeId) (hnm : Tryz.prog.funcNamed nm = some k) (hfn0 : Tryz.prog.funcs[k]? = some fn0) (hps : fn0.params.toList = ts) (hall : (ts.all fun u => !Tryz.prog.wantsStandIn u) = true)
  (f : FuncId) (fn : Func) (hf : Tryz.pinned.checked.prog.funcNamed nm = some f) (hfn : Tryz.pinned.checked.prog.funcs[f]? = some fn) :
  true = Tryz.pinned.checked.prog.looks [] ∧ ∀ (j : Nat) t, fn.params[j]? = some t → Tryz.pinned.checked.prog.wantsStandIn t = false := by
 obtain rfl : f = k := Option.some.inj (hnm.symm.trans hf) |>.symm;obtain rfl : fn = fn0 := (Option.some.inj (hfn0.symm.trans hfn)).symm;refine ⟨by kernel_rfl, fun j t ht => ?_⟩
 have hm : t ∈ ts := by
  rw [← hps];exact Array.mem_toList_iff.2 (Array.mem_of_getElem? ht)
 exact (show Tryz.prog.wantsStandIn t = false by simpa using List.all_eq_true.1 hall t hm)
end Go.Proofs.YtinaeifpoljfoaaGreatDoor
