import Derived.Test.YtbhpafgoofkkmaaGreatDoorXoW
import Derived.Test.YtbhpafgoofkkmaaGreatDoorKinds
import Derived.Test.YtbhpafgoofkkmaaGreatDoorCards
import Derived.Test.YtbhpafgoofkkmaaGreatDoorTie
import Derived.ProofKit
import Derived.OpenShut
import Derived.ChangeOld
import Derived.ChangeSlices
import Derived.Lib.SmallJoins
import Derived.Deep.Slices
import Derived.Deep.Strs
import Derived.SizedLaws
import Derived.MakeChecks
import Derived.Deep.DeepHandedRow
import Derived.Below
set_option linter.all false
namespace Go.Proofs.YtbhpafgoofkkmaaGreatDoor
open Go.ChangeShapes Go.WideShapes Go.ChangeAt Go.RowKit Go.Lib Go.Joins
theorem own : ownKnob Tryz.prog.godebug = none := by kernel_rfl
theorem laidOut : laidOutB Tryz.prog = true := by kernel_rfl
theorem gForms : Tryz.prog.globalNamed "janus/exo.forms" = some 0 := by kernel_rfl
theorem tForms : (Tryz.prog.globals[0]?).map (·.type) = some 129 := by kernel_rfl
theorem forms_at {H : Type} (c : Nat) (hc : c < 18) : ∃ l : List (DataW H), (Rows.laid_janus_exo_forms (H := H)) = .agg l ∧ l[c]? = some (.agg [.lit (.int .i64 (fS c)), .lit (.int .i64 (fL c)), .lit (.int .i64 (fM c))]) := by
 refine ⟨_, rfl, ?_⟩
 have : c = 0 ∨ c = 1 ∨ c = 2 ∨ c = 3 ∨ c = 4 ∨ c = 5 ∨ c = 6 ∨ c = 7 ∨ c = 8 ∨ c = 9 ∨ c = 10 ∨ c = 11 ∨ c = 12 ∨ c = 13 ∨ c = 14 ∨ c = 15 ∨ c = 16 ∨ c = 17 := by omega
 rcases this with rfl | rfl | rfl | rfl | rfl | rfl | rfl | rfl | rfl | rfl | rfl | rfl | rfl | rfl | rfl | rfl | rfl | rfl <;> rfl
set_option maxRecDepth 100000 in
theorem frm_of_laid {W : World} (h : laidMetH Tryz.prog [("janus/exo.forms", Rows.laid_janus_exo_forms)] W) : Frm W := by
 rw [MakeChecks.laidMetH_plain _ _ _ (by kernel_rfl)] at h
 obtain ⟨ps, ⟨g0, t0, cs0, f0, p0, q0, hg0, ht0, hv0, hd0, _, _⟩, _⟩ := h
 obtain rfl := Option.some.inj (gForms.symm.trans hg0)
 obtain rfl := Option.some.inj (tForms.symm.trans ht0)
 obtain ⟨xs, m1, _, hx1, hlen, hn, hel⟩ := DataW.trod_array Tryz.underlying129 hd0
 have c1 : Tryz.prog.cellsOf 128 = 3 := by kernel_rfl
 intro c hc
 obtain ⟨l, hl, hlc⟩ := forms_at (H := Unit) c hc
 simp only [Prod.mk.injEq] at hx1
 have hx := hx1.1
 rw [hl] at hx
 injection hx with hx
 rw [hx, List.getElem?_map, Option.map_eq_some_iff] at hlc
 obtain ⟨x, hxc, hxe⟩ := hlc
 have he := hel c hc
 rw [hxc, c1] at he
 obtain ⟨y0, y1, y2, n, rfl, hl3, h0, h1, h2⟩ := Go.Deep.trod_struct3 Tryz.underlying128 he
 rw [c1] at hl3
 have hq : ∃ a0 a1 a2, (cs0.toList.drop (c * 3)).take 3 = [a0, a1, a2] := by
  match (cs0.toList.drop (c * 3)).take 3, hl3 with
  | [a0, a1, a2], _ => exact ⟨a0, a1, a2, rfl⟩
 obtain ⟨a0, a1, a2, hq⟩ := hq
 rw [hq] at h0 h1 h2
 have k0 : DataW.trod _ Tryz.prog W 0 _ false n 3 [a0] = some y0 := h0
 have k1 : DataW.trod _ Tryz.prog W 0 _ false n 3 [a1] = some y1 := h1
 have k2 : DataW.trod _ Tryz.prog W 0 _ false n 3 [a2] = some y2 := h2
 obtain ⟨z0, e0, d0, _⟩ := DataW.trod_int Tryz.underlying3 k0
 obtain ⟨z1, e1, d1, _⟩ := DataW.trod_int Tryz.underlying3 k1
 obtain ⟨z2, e2, d2, _⟩ := DataW.trod_int Tryz.underlying3 k2
 simp only [List.cons.injEq, and_true] at e0 e1 e2
 subst e0 e1 e2
 rw [d0, d1, d2] at hxe
 simp only [DataW.agg.injEq, List.cons.injEq, DataW.lit.injEq, Lit.int.injEq, true_and, and_true] at hxe
 obtain ⟨r0, r1, r2⟩ := hxe
 subst r0 r1 r2
 have hg : ∀ j, j < 3 → cs0[c * 3 + j]? = ((cs0.toList.drop (c * 3)).take 3)[j]? := by
  intro j hj
  rw [List.getElem?_take_of_lt hj, List.getElem?_drop]
  simp
 rw [hq] at hg
 refine ⟨?_, ?_, ?_⟩
 ·rw [World.var?_cell hg0 hv0]
  exact hg 0 (by omega)
 ·rw [World.var?_cell hg0 hv0]
  exact hg 1 (by omega)
 ·rw [World.var?_cell hg0 hv0]
  exact hg 2 (by omega)
theorem laid_met (os : Os) (args : Array Value) : laidMet Tryz.prog [("janus/exo.forms", Rows.laid_janus_exo_forms)] (World.forCall ({ World.holding Tryz.prog os ⟨#[], #[], []⟩ with heap := (World.holding Tryz.prog os ⟨#[], #[], []⟩).heap.modify 0 fun | .cells _ t frozen => .cells (ftab.map (Value.int .i64)).toArray t frozen | o => o }) (fun _ _ => 0) ⟨#[], args, []⟩).memory :=
 laidMet_of_run' 8 (by kernel_rfl) (by kernel_rfl)
structure Ask where
 e : Int
 a : Option Addr
 cap : Nat
 ws : List Int
abbrev askRow (d : Ask) : Array Value := #[.int .i64 d.e, .slice d.a d.ws.length d.cap]
def AskOk (w : World) (d : Ask) : Prop := RdV w (.slice d.a d.ws.length d.cap) d.ws ∧ U64s d.ws
section
variable {H : Type} {enc : TypeId × Value → H} {w : World} {base : Nat} {held : Bool}
theorem words_in {n : Nat} {v : Value} {y : DataW H × List MemPlace} (h : DataW.trod enc Tryz.prog w base (fun _ => true) held n 27 [v] = some y) :
  ∃ a cap ws, v = .slice a ws.length cap ∧ RdV w (.slice a ws.length cap) ws ∧ U64s ws ∧ ((∀ k ∈ y.1.weights Tryz.prog 27, k ≤ reachBytes) → ws.length * 8 ≤ 140737488351232) := by
 rcases open_ints Tryz.underlying27 Tryz.underlying42 (by kernel_rfl) h with ⟨hcs, _⟩ | ⟨ad, l, c, zs, hcs, _, hl, hm, hz, hy, hcell, hwz⟩
 ·simp only [List.cons.injEq, and_true] at hcs
  subst hcs
  exact ⟨none, 0, [], rfl, RdV.nil _ _ _, U64s.nil, fun _ => by simp⟩
 ·simp only [List.cons.injEq, and_true] at hcs
  subst hcs
  have hz' : zs.length = c := by simpa using hz
  have hlen : (zs.take l).length = l := by simp; omega
  refine ⟨some ad, c, zs.take l, by rw [hlen], ⟨some ad, c, rfl, by omega, ?_⟩, fun x hx => ?_, fun hk => ?_⟩
  ·intro j x hj
   have hjl : j < l := by have := (List.getElem?_eq_some_iff.1 hj).1; omega
   obtain ⟨gb, off, e, hc⟩ := ints_at hcell (by omega)
   subst e
   refine ⟨gb, off, rfl, ?_⟩
   rw [List.getElem?_take, if_pos hjl] at hj
   rw [hc j (by omega), List.getD_eq_getElem?_getD, hj]
   rfl
  ·have hb := bounds_u64 (hwz x (List.mem_of_mem_take hx))
   exact ⟨hb.1, by have := hb.2; omega⟩
  ·have hu : Tryz.prog.underlying 27 = some (.slice 42) := Tryz.underlying27
   have hb : Tryz.prog.bytesOf 42 = 8 := by kernel_rfl
   have := hk ((zs.take l).length * 8 + (zs.drop l).length * 8) (by
     rw [hy]
     unfold DataW.weights
     rw [hu]
     simp only [List.mem_cons]
     left
     rw [hb, ← Nat.add_mul]
     simp [lits])
   rw [show reachBytes = 140737488351232 from rfl] at this
   rw [hlen] at *
   omega
theorem int_in {n : Nat} {v : Value} {y : DataW H × List MemPlace} (h : DataW.trod enc Tryz.prog w base (fun _ => true) held n 3 [v] = some y) : ∃ x : Int, v = .int .i64 x := by
 obtain ⟨x, e, e2, hw⟩ := DataW.trod_int Tryz.underlying3 h
 simp only [List.cons.injEq, and_true] at e
 exact ⟨x, e⟩
set_option maxRecDepth 100000 in
theorem ask_in {n : Nat} {cs : List Value} {y : DataW H × List MemPlace} (h : DataW.trod enc Tryz.prog w base (fun _ => true) held n 32 cs = some y) :
  ∃ d : Ask, cs = (askRow d).toList ∧ AskOk w d ∧ ((∀ k ∈ y.1.weights Tryz.prog 32, k ≤ reachBytes) → d.ws.length * 8 ≤ 140737488351232) := by
 have hu := Tryz.underlying32
 obtain ⟨y0, y1, m, rfl, hl, h0, h1⟩ := trod_struct2 hu h
 rw [show Tryz.prog.cellsOf 32 = 2 by kernel_rfl] at hl
 match cs, hl with
 | [c0, c1], _ =>
  have k0 : DataW.trod enc Tryz.prog w base (fun _ => true) held m 3 [c0] = some y0 := h0
  have k1 : DataW.trod enc Tryz.prog w base (fun _ => true) held m 27 [c1] = some y1 := h1
  obtain ⟨x0, rfl⟩ := int_in k0
  obtain ⟨a, cap, ws, rfl, hrd, hus, hb⟩ := words_in k1
  refine ⟨⟨x0, a, cap, ws⟩, rfl, ⟨hrd, hus⟩, fun hk => hb (fun k hk3 => hk k ?_)⟩
  unfold DataW.weights
  rw [hu]
  exact DataW.weights_mem_each (j := 1) (t := 27) rfl rfl k hk3
end
theorem ask_card (k : Nat) (nm : String) (fn0 : Func) (ts : List TypeId) (hnm : Tryz.prog.funcNamed nm = some k) (hfn0 : Tryz.prog.funcs[k]? = some fn0) (hps : fn0.params.toList = ts) (hall : (ts.all fun u => !Tryz.prog.wantsStandIn u) = true)
  (f : FuncId) (fn : Func) (hf : Tryz.pinned.checked.prog.funcNamed nm = some f) (hfn : Tryz.pinned.checked.prog.funcs[f]? = some fn) :
  false = Tryz.pinned.checked.prog.looks [] ∧ ∀ (j : Nat) t, fn.params[j]? = some t → Tryz.pinned.checked.prog.wantsStandIn t = false := by
 obtain rfl : f = k := Option.some.inj (hnm.symm.trans hf) |>.symm
 obtain rfl : fn = fn0 := (Option.some.inj (hfn0.symm.trans hfn)).symm
 refine ⟨by kernel_rfl, fun j t ht => ?_⟩
 have hm : t ∈ ts := by
  rw [← hps]
  exact Array.mem_toList_iff.2 (Array.mem_of_getElem? ht)
 exact (show Tryz.prog.wantsStandIn t = false by simpa using List.all_eq_true.1 hall t hm)
end Go.Proofs.YtbhpafgoofkkmaaGreatDoor
