/- Two deeds in their boxes and a disk of three blocks: the contracts of the disk's calls over them. -/
import Derived.Test.YtdpniabjlnjkkaaDeed3
import Derived.BigQuiet
import Derived.Deep.QuietTactic
import Derived.Deep.RegionHeld3
import Derived.ProofKit
import Derived.OpenShut
import Derived.ChangeOld
import Derived.Below
namespace Go.Proofs.Ytdpniabjlnjkkaa
open Go.ChangeShapes Go.WideShapes Go.ChangeAt Go.RowKit
namespace Di
set_option linter.unusedVariables false

theorem make_page (w : World) :
    (Instr.makeSlice 41 (.int .i64 32) (.int .i64 32)).run Try.prog w = .ok (.slice (some ⟨w.heap.size, 0, none⟩) 32 32) (w.alloc (.cells (zrow 32) 29)) :=
  run_make_flat 41 29 (.int .u64 0) (.int .u64 0) 1 8 Try.underlying41 wordInfo rfl (by omega) .i64 .i64 32 (by omega) (by omega) w
theorem page_row (M : Nat) (w : World) (h : M ≤ w.heap.size) : URow M (w.alloc (.cells (zrow 32) 29)) (.slice (some ⟨w.heap.size, 0, none⟩) 32 32) (List.replicate 32 0) := by
  refine ⟨_, 32, by simp, by simp, by unfold maxLen; omega, fun _ => ⟨w.heap.size, zrow 32, rfl, h, heap_alloc_new _ _, fun j x hx => ?_⟩⟩
  have hj : j < 32 := by have := (List.getElem?_eq_some_iff.1 hx).1; simpa using this
  rw [List.getElem?_replicate, if_pos hj] at hx
  simp only [Option.some.injEq] at hx
  subst hx
  simp [zrow, hj]

section
variable {w W W' : World} {p1 : Bool} {b1 n1 v1 : Int} {p2 : Bool} {b2 n2 v2 : Int} {vs : List Int} {gt pt : Nat}
end

end Di
end Go.Proofs.Ytdpniabjlnjkkaa
