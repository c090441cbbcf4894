import Derived.Test.YtinaeifpoljfoaaGreatDoorUxS
set_option linter.all false
set_option maxRecDepth 100000
set_option maxHeartbeats 16000000
namespace Go.Proofs.YtinaeifpoljfoaaGreatDoor
open Go.RowKit
theorem core_nil (W : World) : (binOp .eql 24 (.pointer none) (.pointer none)).run Tryz.prog W = .ok (.bool true) W := by kernel_rfl
theorem reads22_walk (a0 : Option Addr) (len cap : Nat) (D : List Int) (w : World) (hlen : len ≤ 9223372036854775807) (hcap : len ≤ cap) (hl : len = D.length) (hr : Ow.Rd w a0 D) (hu : Fd.U64 D) :
  Calls Tryz.prog 3 #[.slice a0 len cap] w fun e w' => e = .returned (.bool true) ∧ Below w.heap.size w w' := by
 by_cases h1 : 3000 < len
 ·have g0 : decide (3000 < (len : Int)) = true := decide_eq_true (by omega)
  clear hl hr hu
  go_enter Tryz.func3, Tryz.ntmps3
  go_wp2_with fail
  refine (awake_at _).mono ?_;rintro x w2 ⟨rfl, hb2⟩;go_wp2;go_ret;exact ⟨rfl, hb2⟩
 ·have g0 : decide (3000 < (len : Int)) = false := decide_eq_false (by omega)
  have hDe := udecode_at decI_fds decI_pipes decI_signals decI_procs a0 len cap D w hr hl hcap hu (by omega);have HR := hid hr;have HU := hid hu;have HL : Hid (len = D.length ∧ len ≤ cap ∧ len ≤ 3000) := ⟨hl, hcap, by omega⟩;clear hl hr hu
  go_enter Tryz.func3, Tryz.ntmps3
  go_wp2_with fail
  refine hDe.mono ?_;rintro x w1 ⟨hx1, hx2, hb1⟩;have HB1 := hid hb1;have hXd := xudecode_at xdecI_fds xdecI_pipes xdecI_signals xdecI_procs a0 len cap D w1 (HR.out.below hb1) HL.out.1 HL.out.2.1 HU.out HL.out.2.2;rw [xU_ok] at hXd
  cases hd : okU Fd.okW ppO sgO Pc.okW D with
  | false =>
   have hx := hx2 hd;subst hx;rw [hd, if_neg (by decide)] at hXd;have hnil := core_nil;clear hx1 hx2 hb1 hd hDe
   go_wp2_with fail
   refine hXd.mono ?_;rintro x w2 ⟨⟨p, rfl⟩, hb2⟩;have HB2 : Hid (Below w.heap.size w w2) := HB1.out.trans (hb2.mono HB1.out.size);clear hb2 hXd HB1
   go_wp2_with fail
   refine (awake_at _).mono ?_;rintro x w3 ⟨rfl, hb3⟩;go_wp2;go_ret;exact ⟨rfl, HB2.out.trans (hb3.mono HB2.out.size)⟩
  | true =>
   obtain ⟨l0, l1, l2, l3, b, b0, b1, b2, b3, hp, hx, hc, hA0, hA1, hA2, hA3⟩ := hx1 hd;subst hx;rw [hd, if_pos rfl] at hXd;have HP := hid hp;have HOk := hid hd;have HC := hid hc;have HA : Hid (fdI l0 w1 b0 ∧ ppI l1 w1 b1 ∧ sgI l2 w1 b2 ∧ pcI l3 w1 b3) := ⟨hA0, hA1, hA2, hA3⟩;have hne := core_eq b;clear hx1 hx2 hb1 hd hDe hp hc hA0 hA1 hA2 hA3
   go_wp2_with fail
   refine hXd.mono ?_;rintro x w2 ⟨⟨p, rfl⟩, hb2⟩;have HB2 : Hid (Below w.heap.size w w2) := HB1.out.trans (hb2.mono HB1.out.size);have hEc := uencode_at encI_fds encI_pipes encI_signals encI_procs decI_fds.keep decI_pipes.keep decI_signals.keep decI_procs.keep D l0 l1 l2 l3 b b0 b1 b2 b3 w2 HP.out HOk.out HU.out (by rw [← HL.out.1]; exact HL.out.2.2) ((hb2.block _ (lt_of_heap HC.out)).trans HC.out) (decI_fds.keep _ _ _ _ HA.out.1 hb2) (decI_pipes.keep _ _ _ _ HA.out.2.1 hb2) (decI_signals.keep _ _ _ _ HA.out.2.2.1 hb2) (decI_procs.keep _ _ _ _ HA.out.2.2.2 hb2);clear hb2 hXd HB1 HC HA HP HOk
   go_wp2_with fail
   refine hEc.mono ?_;rintro x w3 ⟨av, cv, rfl, hrd, hb3⟩;have HB3 : Hid (Below w.heap.size w w3) := HB2.out.trans (hb3.mono HB2.out.size);have hWo := Ow.words_same D av a0 cv cap w3 hrd (HR.out.below HB3.out) (by rw [← HL.out.1]; have := HL.out.2.2; omega);rw [← HL.out.1] at hWo;rw [← HL.out.1];clear hEc hrd hb3 HB2
   go_wp2_with fail
   refine hWo.mono ?_;rintro x w4 ⟨rfl, hb4⟩;have HB4 : Hid (Below w.heap.size w w4) := HB3.out.trans (hb4.mono HB3.out.size);clear hWo hb4 HB3
   go_wp2_with fail
   refine (awake_at _).mono ?_;rintro x w5 ⟨rfl, hb5⟩;go_wp2;go_ret;exact ⟨rfl, HB4.out.trans (hb5.mono HB4.out.size)⟩
end Go.Proofs.YtinaeifpoljfoaaGreatDoor
