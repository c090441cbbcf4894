/- The root as a directory of a law's own: entries added and taken away, and room for them; what a card wants. -/
import Derived.Test.YtcaofdbcgdgbbaaGreatDoorDirHI
import Derived.Test.YtcaofdbcgdgbbaaGreatDoorKinds
import Derived.Test.YtcaofdbcgdgbbaaGreatDoorCards
import Derived.Test.YtcaofdbcgdgbbaaGreatDoorTie
import Derived.ProofKit
import Derived.OpenShut
import Derived.ChangeOld
import Derived.ChangeSlices
import Derived.LaidMore
import Derived.Lay
import Derived.SevenTiedAt
import Derived.Stop.Joined
import Derived.MakeChecks
import Derived.Below
namespace Go.Proofs.YtcaofdbcgdgbbaaGreatDoor
open Go.ChangeShapes Go.WideShapes Go.ChangeAt Go.RowKit Go.Lib
set_option linter.unusedVariables false

theorem own : ownKnob Tryz.prog.godebug = none := by kernel_rfl
theorem laidOut : laidOutB Tryz.prog = true := by kernel_rfl
theorem ask_card (k : Nat) (nm : String) (fn0 : Func) (ts : List TypeId) (hnm : Tryz.prog.funcNamed nm = some k) (hfn0 : Tryz.prog.funcs[k]? = some fn0) (hps : fn0.params.toList = ts) (hall : (ts.all fun u => !Tryz.prog.wantsStandIn u) = true)
    (f : FuncId) (fn : Func) (hf : Tryz.pinned.checked.prog.funcNamed nm = some f) (hfn : Tryz.pinned.checked.prog.funcs[f]? = some fn) :
    false = Tryz.pinned.checked.prog.looks [] ∧ ∀ (j : Nat) t, fn.params[j]? = some t → Tryz.pinned.checked.prog.wantsStandIn t = false := by
  obtain rfl : f = k := Option.some.inj (hnm.symm.trans hf) |>.symm
  obtain rfl : fn = fn0 := (Option.some.inj (hfn0.symm.trans hfn)).symm
  refine ⟨by kernel_rfl, fun j t ht => ?_⟩
  have hm : t ∈ ts := by
    rw [← hps]
    exact Array.mem_toList_iff.2 (Array.mem_of_getElem? ht)
  exact (show Tryz.prog.wantsStandIn t = false by simpa using List.all_eq_true.1 hall t hm)
/-- The root has these entries, and what it has not taken is free. -/
structure FuAt (F : FS) (l : List Ent) : Prop where
  dir : DirAt F 0 l
  n : F.n = 40
  free : Bi.cntF (Bi.bt F.bw) F.n + (F.ino 0).blk.length = 28
theorem fu0 : FuAt (F0 40) [] := ⟨⟨rfl, rfl, (fun e he => by cases he), List.nodup_nil, by simp⟩, rfl, by decide +kernel⟩
section
variable {F : FS} {l : List Ent}
theorem FuAt.list (h : FuAt F l) : dirL F 0 = l := h.dir.list (i := 0) (by omega)
theorem FuAt.isd (h : FuAt F l) : isD F 0 = true := by
  unfold isD
  rw [show isI 0 = true from rfl]
  show decide ((F.ino 0).kind = 2) = true
  rw [h.dir.kind]
  rfl
theorem FuAt.find (h : FuAt F l) (s : List UInt8) : fdR F 0 s = findE l s := by unfold fdR; rw [h.list]
theorem lay_blk (hF : FInv F) (i : Nat) (hi : i < 32) (t : List Int) (hr : roomB F i t.length = true) : ((layT F i t).ino i).blk.length = need t.length := by
  unfold layT
  rw [FS.put_same]
  have hr' : need t.length - (F.ino i).blk.length ≤ Bi.cntF (Bi.bt F.bw) F.n := of_decide_eq_true hr
  obtain ⟨g1, g2, g3, g4, g5, g6⟩ := grow_ok hF.bw hr'
  show (newBlk F i t.length).length = _
  unfold newBlk
  rw [List.length_append, List.length_take, g1]
  omega
theorem FuAt.lay (h : FuAt F l) (hF : FInv F) {t : List Int} {m : List Ent} (hr : roomB F 0 t.length = true) (hd : DirAt (layT F 0 t) 0 m) : FuAt (layT F 0 t) m := by
  refine ⟨hd, h.n, ?_⟩
  have h1 := cnt_resize hF (i := 0) (s := t.length) (by omega) hr
  have h2 := lay_blk hF 0 (by omega) t hr
  have h3 := h.free
  rw [h2]
  show Bi.cntF (Bi.bt (newBw F 0 t.length)) F.n + need t.length = 28
  have h4 : Bi.cntF (Bi.bt (newBw F 0 t.length)) F.n + need t.length = Bi.cntF (Bi.bt F.bw) F.n + (F.ino 0).blk.length := h1
  rw [h4]
  exact h3
theorem FuAt.room (h : FuAt F l) {s : Nat} (hs : s ≤ 192) : roomB F 0 s = true := by
  unfold roomB
  refine decide_eq_true ?_
  have := h.free
  have := need_le hs
  omega
/-- What Add answers at the root, where the name and the number may be. -/
theorem FuAt.add (h : FuAt F l) (hF : FInv F) (hA : AllD F) {s : List UInt8} {t : Nat} (hn : isName s = true) (ht : t < 32) (hf : findE l s = -1) (hl : l.length < 21) : adR F 0 s (t : Int) = 0 ∧ FuAt (adF F 0 s (t : Int)) (l ++ [⟨s, t⟩]) := by
  have hok := ent_ok hn ht
  have h9 := encE_len hok
  have hlen := h.dir.len
  have hb := adB_enc F 0 s t
  have hne : encE ⟨s, t⟩ ≠ [] := fun q => by rw [q] at h9; simp at h9
  have hmx : max (F.ino 0).txt.length (9 * l.length + (encE ⟨s, t⟩).length) = 9 * l.length + 9 := by rw [hlen, h9]; omega
  have hroom : roomB F 0 (9 * l.length + 9) = true := h.room (by omega)
  have hw := wr_yes F 0 (9 * l.length) (encE ⟨s, t⟩) (by omega) hne (by rw [hmx]; exact hroom)
  have h0 : adR F 0 s (t : Int) = 0 := by
    unfold adR
    rw [h.isd, hn, isI_nat ht, if_neg (by simp), if_neg (by simp), h.find, hf, if_neg (by omega), h.list, if_neg (by omega), hb]
    show (if wrR F 0 ((9 * l.length : Nat) : Int) (encE ⟨s, t⟩) = 0 then 0 else 28) = _
    rw [hw.1]
    rfl
  refine ⟨h0, ?_⟩
  obtain ⟨k, t', l', e1, hk, e2, ht', hl', e3, e4, e5⟩ := add_ok hF hA h0
  have ek : k = 0 := by omega
  have et : t' = t := by omega
  subst ek et
  have el : l' = l := by
    have a1 := hl'.list (by omega : (0 : Nat) < 32)
    have a2 := h.list
    rw [← a1]
    exact a2
  subst el
  rw [e3] at e4 ⊢
  refine h.lay hF ?_ e4
  rw [List.length_append, hlen, nums_len, h9]
  exact hroom
theorem FuAt.full (h : FuAt F l) {s : List UInt8} {t : Nat} (hn : isName s = true) (ht : t < 32) (hf : findE l s = -1) (hl : l.length = 21) : adR F 0 s (t : Int) = 28 ∧ adF F 0 s (t : Int) = F := by
  have e1 : adR F 0 s (t : Int) = 28 := by
    unfold adR
    rw [h.isd, hn, isI_nat ht, if_neg (by simp), if_neg (by simp), h.find, hf, if_neg (by omega), h.list, if_pos (by omega)]
  exact ⟨e1, by unfold adF; rw [e1]; rfl⟩
theorem FuAt.rem (h : FuAt F l) (hF : FInv F) (hA : AllD F) {s : List UInt8} (hp : placeE l s < l.length) : rmR F 0 s = 0 ∧ FuAt (rmF F 0 s) (l.take (placeE l s) ++ l.drop (placeE l s + 1)) := by
  have h0 : rmR F 0 s = 0 := by
    unfold rmR
    rw [h.isd, if_neg (by simp), h.list, if_pos hp]
  refine ⟨h0, ?_⟩
  obtain ⟨k, l', e1, hk, hl', hp', et, e3, e4⟩ := rem_ok hF hA h0
  have ek : k = 0 := by omega
  subst ek
  have el : l' = l := by
    have a1 := hl'.list (by omega : (0 : Nat) < 32)
    have a2 := h.list
    rw [← a1]
    exact a2
  subst el
  rw [e3] at e4 ⊢
  refine h.lay hF (h.room ?_) e4
  rw [nums_len, et, encsE_len (fun e he => ?_)]
  · have := gone_len hp
    have := h.dir.most
    omega
  · rcases List.mem_append.1 he with q | q
    · exact h.dir.ok e (List.mem_of_mem_take q)
    · exact h.dir.ok e (List.mem_of_mem_drop q)
theorem FuAt.norem (h : FuAt F l) {s : List UInt8} (hp : ¬ placeE l s < l.length) : rmR F 0 s = 2 ∧ rmF F 0 s = F := by
  have e1 : rmR F 0 s = 2 := by
    unfold rmR
    rw [h.isd, if_neg (by simp), h.list, if_neg hp]
  exact ⟨e1, by unfold rmF; rw [e1]; rfl⟩
end
theorem find_no_iff {l : List Ent} {s : List UInt8} : findE l s = -1 ↔ ¬ placeE l s < l.length := by
  unfold findE
  by_cases h : placeE l s < l.length
  · rw [if_pos h]
    constructor
    · intro q; omega
    · intro q; exact absurd h q
  · rw [if_neg h]
    exact ⟨fun _ => h, fun _ => rfl⟩
end Go.Proofs.YtcaofdbcgdgbbaaGreatDoor
