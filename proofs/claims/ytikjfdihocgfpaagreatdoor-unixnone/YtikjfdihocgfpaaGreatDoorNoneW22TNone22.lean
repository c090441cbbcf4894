/- januslaw22: the walk of UnixNone. -/
/- What a card wants. -/
/- januslaw22: deeds that came in. -/
/- Proved: januslaw22.UnixNone answers true for every deed (a core that is none refuses all), and its argument reads behind the call as before, at the commit of this claim; where the listed package-level variables are laid as the program's text lays them (the card ties that; the call reads none of them). -/
import Derived.Test.YtikjfdihocgfpaaGreatDoorUxNTUxM
import Derived.Test.YtikjfdihocgfpaaGreatDoorUxS
import Derived.Test.YtikjfdihocgfpaaGreatDoorKindsTRsA
import Derived.Test.YtikjfdihocgfpaaGreatDoorCards
import Derived.Test.YtikjfdihocgfpaaGreatDoorTie
import Derived.Test.YtikjfdihocgfpaaGreatDoorUxATUxT
import Derived.ProofKit
import Derived.OpenShut
import Derived.ChangeOld
import Derived.ChangeSlices
import Derived.LaidMore
import Derived.Lay
import Derived.SevenTiedAt
import Derived.Stop.Joined
import Derived.MakeChecks
import Derived.Below
set_option linter.all false
namespace Go.Proofs.YtikjfdihocgfpaaGreatDoor
open Go.RowKit
set_option maxRecDepth 100000 in
set_option maxHeartbeats 4000000 in
theorem none_walk (k p n : Int) (x : Cl) (pc : Int) (v : Value) (w : World) :
    Calls Tryz.prog 5 #[.agg #[.int .i64 k, .int .i64 p, .int .i64 n, .int .i64 x.n, .int .u64 x.a, .int .u64 x.b, .int .u64 x.c, Pp.tx x.t, Pp.tx x.u, .int .i64 pc, v]] w fun e w' => e = .returned (.bool true) ∧ Below w.heap.size w w' := by
  obtain ⟨xn, xa, xb, xc, xt, xu⟩ := x
  obtain ⟨W, hW⟩ : ∃ W, W = w.alloc (.cells #[.int .i64 k, .int .i64 p, .int .i64 n, .int .i64 xn, .int .u64 xa, .int .u64 xb, .int .u64 xc, Pp.tx xt, Pp.tx xu, .int .i64 pc, v] 55) := ⟨_, rfl⟩
  obtain ⟨D, hD⟩ : ∃ D, D = w.heap.size := ⟨_, rfl⟩
  have HX0 : Hid (W.heap[D]? = some (.cells #[.int .i64 k, .int .i64 p, .int .i64 n, .int .i64 xn, .int .u64 xa, .int .u64 xb, .int .u64 xc, Pp.tx xt, Pp.tx xu, .int .i64 pc, v] 55)) := by rw [hW, hD]; exact heap_alloc_new _ _
  have HB0 : Hid (Below w.heap.size w W) := by rw [hW]; exact below_alloc _ _
  have HW : Hid _ := hW
  have HD : Hid _ := hD
  clear hW hD
  have hC : ∀ V : World, V.heap[D]? = some (.cells #[.int .i64 k, .int .i64 p, .int .i64 n, .int .i64 xn, .int .u64 xa, .int .u64 xb, .int .u64 xc, Pp.tx xt, Pp.tx xu, .int .i64 pc, v] 55) →
      V.cell? ⟨D, 1, none⟩ = some (.int .i64 p) ∧ V.cell? ⟨D, 2, none⟩ = some (.int .i64 n) ∧ V.cell? ⟨D, 3, none⟩ = some (.int .i64 xn) ∧ V.cell? ⟨D, 4, none⟩ = some (.int .u64 xa) ∧ V.cell? ⟨D, 5, none⟩ = some (.int .u64 xb) ∧ V.cell? ⟨D, 6, none⟩ = some (.int .u64 xc) ∧ V.cell? ⟨D, 7, none⟩ = some (Pp.tx xt) ∧ V.cell? ⟨D, 8, none⟩ = some (Pp.tx xu) ∧ V.cell? ⟨D, 9, none⟩ = some (.int .i64 pc) ∧ V.cell? ⟨D, 10, none⟩ = some v := fun V h => by
    refine ⟨?_, ?_, ?_, ?_, ?_, ?_, ?_, ?_, ?_, ?_⟩ <;> (rw [cell_of_heap h]; rfl)
  have HC : Hid (∀ V : World, V.heap[D]? = some (.cells #[.int .i64 k, .int .i64 p, .int .i64 n, .int .i64 xn, .int .u64 xa, .int .u64 xb, .int .u64 xc, Pp.tx xt, Pp.tx xu, .int .i64 pc, v] 55) →
      V.cell? ⟨D, 1, none⟩ = some (.int .i64 p) ∧ V.cell? ⟨D, 2, none⟩ = some (.int .i64 n) ∧ V.cell? ⟨D, 3, none⟩ = some (.int .i64 xn) ∧ V.cell? ⟨D, 4, none⟩ = some (.int .u64 xa) ∧ V.cell? ⟨D, 5, none⟩ = some (.int .u64 xb) ∧ V.cell? ⟨D, 6, none⟩ = some (.int .u64 xc) ∧ V.cell? ⟨D, 7, none⟩ = some (Pp.tx xt) ∧ V.cell? ⟨D, 8, none⟩ = some (Pp.tx xu) ∧ V.cell? ⟨D, 9, none⟩ = some (.int .i64 pc) ∧ V.cell? ⟨D, 10, none⟩ = some v) := hC
  clear hC
  obtain ⟨c1, c2, c3, c4, c5, c6, c7, c8, c9, c10⟩ := HC.out _ HX0.out
  go_enter Tryz.func5, Tryz.ntmps5
  go_wp2_with fail
  rw [← Hid.out HW, ← Hid.out HD]
  refine (sig_nil _ _ _ _).mono ?_
  rintro e1 w1 ⟨rfl, hb⟩
  have HX1 : Hid _ := (hb.block _ (lt_of_heap HX0.out)).trans HX0.out
  have HB1 : Hid (Below w.heap.size w w1) := HB0.out.trans (hb.mono HB0.out.size)
  clear c1 c2 c3 c4 c5 c6 c7 c8 c9 c10 hb HW HD
  obtain ⟨c1, c2, c3, c4, c5, c6, c7, c8, c9, c10⟩ := HC.out _ HX1.out
  go_wp2_with fail
  refine (do_nil _ ⟨xn, xa, xb, xc, xt, xu⟩ [] _).mono ?_
  rintro e1 w2 ⟨rfl, hb⟩
  have HX2 : Hid _ := (hb.block _ (lt_of_heap HX1.out)).trans HX1.out
  have HB2 : Hid (Below w.heap.size w w2) := HB1.out.trans (hb.mono HB1.out.size)
  clear c1 c2 c3 c4 c5 c6 c7 c8 c9 c10 hb
  obtain ⟨w3, hw3⟩ : ∃ V, V = w2.alloc (.cells #[.int .i64 0, .int .i64 3, .string ⟨#[]⟩, .int .i64 0, .int .i64 0] 39) := ⟨_, rfl⟩
  have hb3 : Below w2.heap.size w2 w3 := by rw [hw3]; exact below_alloc _ _
  have HX3 : Hid _ := (hb3.block _ (lt_of_heap HX2.out)).trans HX2.out
  have HB3 : Hid (Below w.heap.size w w3) := HB2.out.trans (hb3.mono HB2.out.size)
  obtain ⟨r, hr⟩ : ∃ r, r = w2.heap.size := ⟨_, rfl⟩
  have HR3 : Hid (w3.heap[r]? = some (.cells #[.int .i64 0, .int .i64 3, .string ⟨#[]⟩, .int .i64 0, .int .i64 0] 39)) := by rw [hw3, hr]; exact heap_alloc_new _ _
  have HW3 : Hid (w3 = w2.alloc (.cells #[.int .i64 0, .int .i64 3, .string ⟨#[]⟩, .int .i64 0, .int .i64 0] 39)) := hw3
  have Hr : Hid (r = w2.heap.size) := hr
  clear hw3 hb3 hr
  obtain ⟨c1, c2, c3, c4, c5, c6, c7, c8, c9, c10⟩ := HC.out _ HX2.out
  have heq : ∀ V, (binOp .eql 39 (.agg #[.int .i64 0, .int .i64 3, .string ⟨#[]⟩, .int .i64 0, .int .i64 0]) (.agg #[.int .i64 0, .int .i64 3, .string ⟨#[]⟩, .int .i64 0, .int .i64 0])).run Tryz.prog V = .ok (.bool true) V := fun V => by kernel_rfl
  have hse : ((⟨#[]⟩ : ByteArray) == ⟨#[]⟩) = true := by decide
  go_upto_region 4 with fail
  rw [← Hr.out, ← HW3.out]
  clear c1 c2 c3 c4 c5 c6 c7 c8 c9 c10
  obtain ⟨c1, c2, c3, c4, c5, c6, c7, c8, c9, c10⟩ := HC.out _ HX3.out
  go_wp2_with fail
  refine (kill_nil _ _ _).mono ?_
  rintro e1 v1 ⟨rfl, hw⟩
  rw [hw]
  clear hw v1
  go_wp2_with fail
  refine (saved_nil _ _).mono ?_
  rintro e1 w4 ⟨rfl, hb⟩
  have HX4 : Hid _ := (hb.block _ (lt_of_heap HX3.out)).trans HX3.out
  have HR4 : Hid (w4.heap[r]? = some (.cells #[.int .i64 0, .int .i64 3, .string ⟨#[]⟩, .int .i64 0, .int .i64 0] 39)) := (hb.block _ (lt_of_heap HR3.out)).trans HR3.out
  have HB4 : Hid (Below w.heap.size w w4) := HB3.out.trans (hb.mono HB3.out.size)
  clear c1 c2 c3 c4 c5 c6 c7 c8 c9 c10 hb
  obtain ⟨w5, hw5⟩ : ∃ V, V = w4.alloc (.cells #[.int .i64 0, .slice none 0 0] 53) := ⟨_, rfl⟩
  have hb5 : Below w4.heap.size w4 w5 := by rw [hw5]; exact below_alloc _ _
  have HX5 : Hid _ := (hb5.block _ (lt_of_heap HX4.out)).trans HX4.out
  have HR5 : Hid (w5.heap[r]? = some (.cells #[.int .i64 0, .int .i64 3, .string ⟨#[]⟩, .int .i64 0, .int .i64 0] 39)) := (hb5.block _ (lt_of_heap HR4.out)).trans HR4.out
  have HB5 : Hid (Below w.heap.size w w5) := HB4.out.trans (hb5.mono HB4.out.size)
  have HW5 : Hid (w5 = w4.alloc (.cells #[.int .i64 0, .slice none 0 0] 53)) := hw5
  clear hw5 hb5
  obtain ⟨c1, c2, c3, c4, c5, c6, c7, c8, c9, c10⟩ := HC.out _ HX5.out
  go_upto_region 6 with fail
  rw [← HW5.out]
  have r0 : w5.cell? ⟨r, 0, none⟩ = some (.int .i64 0) := by rw [cell_of_heap HR5.out]; rfl
  have r1 : w5.cell? ⟨r, 1, none⟩ = some (.int .i64 3) := by rw [cell_of_heap HR5.out]; rfl
  have r2 : w5.cell? ⟨r, 2, none⟩ = some (.string ⟨#[]⟩) := by rw [cell_of_heap HR5.out]; rfl
  have r3 : w5.cell? ⟨r, 3, none⟩ = some (.int .i64 0) := by rw [cell_of_heap HR5.out]; rfl
  have r4 : w5.cell? ⟨r, 4, none⟩ = some (.int .i64 0) := by rw [cell_of_heap HR5.out]; rfl
  go_wp2_with fail
  refine (begin_nil _ _).mono ?_
  rintro e1 v1 ⟨rfl, hw⟩
  rw [hw]
  clear hw v1
  go_wp2_with fail
  refine (ulive_nil _ _).mono ?_
  rintro e1 v1 ⟨rfl, hw⟩
  rw [hw]
  clear hw v1
  go_wp2_with fail
  refine (pids_nil _).mono ?_
  rintro e1 v1 ⟨rfl, hw⟩
  rw [hw]
  clear hw v1
  go_wp2_with fail
  refine (encode_nil _).mono ?_
  rintro e1 w6 ⟨rfl, hb⟩
  have HB6 : Hid (Below w.heap.size w w6) := HB5.out.trans (hb.mono HB5.out.size)
  clear c1 c2 c3 c4 c5 c6 c7 c8 c9 c10 r0 r1 r2 r3 r4 hb
  go_wp2_with fail
  refine (awake_at _).mono ?_
  rintro e1 w7 ⟨rfl, hb⟩
  have HB7 : Hid (Below w.heap.size w w7) := HB6.out.trans (hb.mono HB6.out.size)
  clear hb
  go_wp2
  go_ret
  exact ⟨rfl, HB7.out⟩
end Go.Proofs.YtikjfdihocgfpaaGreatDoor
namespace Go.Proofs.YtikjfdihocgfpaaGreatDoor
open Go.ChangeShapes Go.WideShapes Go.ChangeAt Go.RowKit Go.Lib
theorem own : ownKnob Tryz.prog.godebug = none := by kernel_rfl
theorem laidOut : laidOutB Tryz.prog = true := by kernel_rfl
theorem ask_card (k : Nat) (nm : String) (fn0 : Func) (ts : List TypeId) (hnm : Tryz.prog.funcNamed nm = some k) (hfn0 : Tryz.prog.funcs[k]? = some fn0) (hps : fn0.params.toList = ts) (hall : (ts.all fun u => !Tryz.prog.wantsStandIn u) = true)
    (f : FuncId) (fn : Func) (hf : Tryz.pinned.checked.prog.funcNamed nm = some f) (hfn : Tryz.pinned.checked.prog.funcs[f]? = some fn) :
    true = Tryz.pinned.checked.prog.looks [] ∧ ∀ (j : Nat) t, fn.params[j]? = some t → Tryz.pinned.checked.prog.wantsStandIn t = false := by
  obtain rfl : f = k := Option.some.inj (hnm.symm.trans hf) |>.symm
  obtain rfl : fn = fn0 := (Option.some.inj (hfn0.symm.trans hfn)).symm
  refine ⟨by kernel_rfl, fun j t ht => ?_⟩
  have hm : t ∈ ts := by
    rw [← hps]
    exact Array.mem_toList_iff.2 (Array.mem_of_getElem? ht)
  exact (show Tryz.prog.wantsStandIn t = false by simpa using List.all_eq_true.1 hall t hm)
end Go.Proofs.YtikjfdihocgfpaaGreatDoor
namespace Go.Proofs.YtikjfdihocgfpaaGreatDoor
open Go.ChangeShapes Go.WideShapes Go.ChangeAt Go.RowKit Go.Lib
/-- A deed. -/
structure Dd where
  k : Int
  p : Int
  n : Int
  x : Cl
  pc : Int
  v : Value
abbrev ddR (d : Dd) : Array Value := #[.int .i64 d.k, .int .i64 d.p, .int .i64 d.n, .int .i64 d.x.n, .int .u64 d.x.a, .int .u64 d.x.b, .int .u64 d.x.c, Pp.tx d.x.t, Pp.tx d.x.u, .int .i64 d.pc, d.v]
theorem clKinds : kindsOf Tryz.prog 9 48 = some [.i .i64, .i .u64, .i .u64, .i .u64, .s, .s] := by kernel_rfl
theorem cl_of {l : List Value} (h : Fits [.i .i64, .i .u64, .i .u64, .i .u64, .s, .s] l) : ∃ x : Cl, l = (clR x).toList := by
  obtain ⟨_, _, rfl, ⟨a, rfl, -⟩, _, _, rfl, ⟨b, rfl, -⟩, _, _, rfl, ⟨c, rfl, -⟩, _, _, rfl, ⟨d, rfl, -⟩, _, _, rfl, ⟨s, rfl, -⟩, _, _, rfl, ⟨t, rfl, -⟩, rfl⟩ := h
  exact ⟨⟨a, b, c, d, s.data.toList, t.data.toList⟩, rfl⟩
section
variable {H : Type} {enc : TypeId × Value → H} {w : World} {base : Nat} {held : Bool}
theorem dd_in {n : Nat} {cs : List Value} {y : DataW H × List MemPlace} (h : DataW.trod enc Tryz.prog w base (fun _ => true) held n 55 cs = some y) : ∃ d : Dd, cs = (ddR d).toList := by
  have hu := Tryz.underlying55
  obtain ⟨y0, y1, y2, y3, y4, m, hl, h0, h1, h2, h3, h4⟩ := Sg.trod_struct5 hu h
  rw [show Tryz.prog.cellsOf 55 = 11 by kernel_rfl] at hl
  match cs, hl with
  | [c0, c1, c2, c3, c4, c5, c6, c7, c8, c9, c10], _ =>
    have k0 : DataW.trod enc Tryz.prog w base (fun _ => true) held m 3 [c0] = some y0 := h0
    have k1 : DataW.trod enc Tryz.prog w base (fun _ => true) held m 3 [c1] = some y1 := h1
    have k2 : DataW.trod enc Tryz.prog w base (fun _ => true) held m 3 [c2] = some y2 := h2
    have k3 : DataW.trod enc Tryz.prog w base (fun _ => true) held m 48 [c3, c4, c5, c6, c7, c8] = some y3 := h3
    have k4 : DataW.trod enc Tryz.prog w base (fun _ => true) held m 53 [c9, c10] = some y4 := h4
    obtain ⟨z0, z1, m2, -, -, l0, l1⟩ := Sg.trod_struct2 Tryz.underlying53 k4
    have j0 : DataW.trod enc Tryz.prog w base (fun _ => true) held m2 3 [c9] = some z0 := l0
    obtain ⟨x0, rfl, _⟩ := Sg.int_in k0
    obtain ⟨x1, rfl, _⟩ := Sg.int_in k1
    obtain ⟨x2, rfl, _⟩ := Sg.int_in k2
    obtain ⟨x4, rfl, _⟩ := Sg.int_in j0
    obtain ⟨x, hx⟩ := cl_of (fits_of_trod 9 _ _ _ _ _ clKinds k3)
    simp only [clR, List.cons.injEq, and_true] at hx
    obtain ⟨rfl, rfl, rfl, rfl, rfl, rfl⟩ := hx
    exact ⟨⟨x0, x1, x2, x, x4, c10⟩, rfl⟩
end
end Go.Proofs.YtikjfdihocgfpaaGreatDoor
namespace Go.Proofs.YtikjfdihocgfpaaGreatDoor
open Go.ChangeShapes Go.WideShapes Go.ChangeAt Go.RowKit Go.Lib
set_option maxRecDepth 100000 in
theorem none22_lifted (os : Os) (started : os.Started) (H : Type) (enc : TypeId × Value → H) :
    ReturnsInHanded {} Tryz.checked os 5 .any (fun w args => (Rows.unixNoneSpec.pre enc Tryz.prog Tryz.f5 Rows.unixNoneRow.domain false w args ∧ laidMetH Tryz.prog Rows.unixNoneRow.laid w) ∧ sizedMet enc Tryz.prog Tryz.f5 (OpenSpec.ofChange Rows.unixNoneSpec) false w args) (Rows.unixNoneSpec.post enc Tryz.prog Tryz.f5 false true false false) := by
  refine returnsInHanded_of_change_and (C := Tryz.checked) (X := fun w _ => laidMetH Tryz.prog Rows.unixNoneRow.laid w) (fun _ _ _ hh h => h.of_heap hh) own started (by kernel_rfl) Tryz.func5
    (ChangeSpec.witness_shaped (enc := enc) (C := Tryz.checked) (os := os) (X := fun w _ => laidMetH Tryz.prog Rows.unixNoneRow.laid w) false (World.laidAll Tryz.prog os Rows.unixNoneRow.laid) #[.agg #[.int .i64 0, .int .i64 0, .int .i64 0, .int .i64 0, .int .u64 0, .int .u64 0, .int .u64 0, .string ⟨#[]⟩, .string ⟨#[]⟩, .int .i64 0, .slice none 0 0]] 8 (World.laidAll_os _ _ _)
      (World.shaped_of_ZipB (by kernel_rfl) (by kernel_rfl)) (by kernel_rfl) (by kernel_rfl) (by kernel_rfl)
      (by rw [MakeChecks.laidMetH_plain _ _ _ (by kernel_rfl)]; exact laidMet_laidAll _ (by kernel_rfl) (by kernel_rfl))) ?_
  intro W base args ds gs before hval0 hW hcnd hsz hL _
  have hval : ∀ (j : Nat) t v, Tryz.f5.params[j]? = some t → args[j]? = some v → Value.okWide Tryz.prog W .any base t v := hval0
  have hW' := hW
  obtain ⟨p, q, hA0, hV, rfl, hfz, hnd⟩ := hW
  have hA : DataW.TrodAll enc Tryz.prog W 0 (fun _ => true) true Tryz.f5.params.toList args.toList ds p := hA0
  rw [Tryz.params5] at hA hval
  obtain ⟨v0, vs0, d0, ds0, p0, q0, hargs, rfl, rfl, h0, r0⟩ := trodAll_cons hA
  obtain ⟨rfl, rfl, rfl⟩ := trodAll_nil r0
  obtain rfl : args = #[v0] := by cases args; simp_all
  obtain ⟨rfl, rfl⟩ := trodVars_none hV
  have k0 := h0
  have lt0 : ∀ x ∈ p0, x.block < W.heap.size := by obtain ⟨m, hm⟩ := k0; exact DataW.trod_lt m _ _ _ hm
  clear hA0 hval0
  obtain ⟨cs0, rfl, hcz⟩ := okWide_struct Tryz.underlying55 (hval 0 55 v0 rfl rfl)
  obtain ⟨fuel, hf⟩ := h0
  obtain ⟨d, hcs⟩ := dd_in (by simpa [Value.cells] using hf)
  obtain rfl : cs0 = ddR d := Array.toList_inj.1 hcs
  have hwalk : Calls Tryz.prog 5 #[.agg (ddR d)] W fun e w' => e = .returned (.bool true) ∧ Below W.heap.size W w' := none_walk d.k d.p d.n d.x d.pc d.v W
  refine hwalk.mono fun e W' ⟨he, bel⟩ => ?_
  subst he
  exact ⟨_, rfl, _, _, _, [], _, [], hW', trodAll_mk1 (shut_bool Tryz.underlying4 _), (trodAll_cons_mk (Below.trod laidOut (by kernel_rfl) (of_decide_eq_true (by kernel_rfl)) k0 bel lt0) trodAll_mk0), rfl, bel.frame _, fun h => by cases h⟩
theorem none22_said : Rows.UnixNoneSaid :=
  OpenClaim.holds_of_wide 5 Tryz.f5 rfl rfl rfl rfl rfl rfl rfl ⟨rfl, rfl, rfl, rfl, rfl⟩ rfl rfl rfl rfl rfl (by kernel_rfl) Tryz.func5 (by kernel_rfl)
    (of_decide_eq_true (by kernel_rfl)) (by unfold Func.isWrapper; first | (rw [if_pos (by decide +kernel)]; kernel_rfl) | (rw [if_neg (by decide +kernel)]; exact ⟨rfl, rfl⟩))
    (fun os started H enc _ => none22_lifted os started H enc)
theorem none22_holds : Rows.UnixNoneCardSaid :=
  Claim7.holds_tied_plain_at .later [] _ _ _ _ none22_said (fun _ h => by cases h) (by kernel_rfl) (fun _ h => by cases h) unixNone_row_tie rfl ⟨rfl, rfl⟩ (by kernel_rfl) rfl
    (ask_card 5 "janus/januslaw22.UnixNone" Tryz.f5 [55] (by kernel_rfl) Tryz.func5 (by rw [Tryz.params5]) (by kernel_rfl)) (by kernel_rfl)
#print axioms none22_holds
end Go.Proofs.YtikjfdihocgfpaaGreatDoor
