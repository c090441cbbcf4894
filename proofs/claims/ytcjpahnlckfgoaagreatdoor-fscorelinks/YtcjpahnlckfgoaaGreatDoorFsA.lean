/- Package fscore: must, told, attempt: what gives up by a panic is recovered. -/
import Derived.Test.YtcjpahnlckfgoaaGreatDoorDfCD
import Derived.Defers
import Derived.Recover
namespace Go.Proofs.YtcjpahnlckfgoaaGreatDoor
open Go.RowKit
set_option linter.unusedVariables false

/-- The panic that tells an error. -/
abbrev errV (er : Int) : Value := .iface 40 (.int .i64 er)
abbrev pan (er : Int) : List PanicEntry := [{ v := errV er, recovered := false }]
theorem must_ok (w : World) : Calls Tryz.prog 102 #[.int .i64 0] w fun e w' => e = .returned (.tuple #[]) ∧ w' = w := by
  go_enter Tryz.func102, Tryz.ntmps102
  go_wp2
  go_end0
  exact ⟨rfl, rfl⟩
theorem must_no (er : Int) (h : (er != 0) = true) (w : World) : Calls Tryz.prog 102 #[.int .i64 er] w fun e w' => e = .panicked (pan er) ∧ w' = w := by
  go_enter Tryz.func102, Tryz.ntmps102
  go_wp2
  simp [bodyPost]
set_option maxRecDepth 100000 in
theorem told_at (er : Int) (w : World) : Calls Tryz.prog 95 #[errV er] w fun e w' => e = .returned (.int .i64 er) ∧ w' = w := by
  have hta : ∀ W : World, (Instr.typeAssert (errV er) 20 40 true).run Tryz.prog W = .ok (.tuple #[.int .i64 er, .bool true]) W := fun W => by kernel_rfl
  go_enter Tryz.func95, Tryz.ntmps95
  go_wp2
  go_ret
  exact ⟨rfl, rfl⟩
theorem catch_panic (c : Nat) (er x : Int) (w : World) (hc : w.cell? ⟨c, 0, none⟩ = some (.int .i64 x)) (hz : w.frozen? ⟨c, 0, none⟩ = false) :
    CallsD Tryz.prog 94 #[ptr c] (.panicking (pan er)) w fun e u' w' => e = .returned (.tuple #[]) ∧ u' = .panicking [{ v := errV er, recovered := true }] ∧ w' = w.setCell ⟨c, 0, none⟩ (.int .i64 er) := by
  have hT := told_at er w
  refine callsD_of_wpS Tryz.func94 rfl fun c₀ cs hu => ?_
  apply wpS_seq
  apply wpS_region
  simp [wpOpsS, go_sem, recoverD, hu, Tryz.ntmps94, Exit.thenS]
  refine wpS_of_wp ?_
  go_wp2_with fail
  refine hT.mono ?_
  rintro e w1 ⟨rfl, rfl⟩
  go_wp2
  simp [bodyPostS, results, Tryz.results94]
theorem catch_idle (c : Nat) (w : World) :
    CallsD Tryz.prog 94 #[ptr c] .returning w fun e u' w' => e = .returned (.tuple #[]) ∧ u' = .returning ∧ w' = w := by
  refine callsD_of_wpS Tryz.func94 rfl fun c₀ cs hu => ?_
  apply wpS_seq
  apply wpS_region
  simp [wpOpsS, go_sem, recoverD, hu, Tryz.ntmps94, Exit.thenS]
  refine wpS_of_wp ?_
  go_wp2
  cases c₀
  simp_all [bodyPostS, results, Tryz.results94]
/-- What a call of attempt's does on the draft. -/
def Doe (lo B G d n : Nat) (vs : List Int) (m : Nat) (Q : Nat → Prop) (Rok : List Int → World → Prop) (Re : Int → Prop) (W : World) : Ending → World → Prop := fun e w' =>
  (e = .returned (.tuple #[]) ∧ SU lo Q W w' ∧ ∃ ws, Dk w' (dft (dsk lo B G) lo d vs) n ws m ∧ Rok ws w') ∨ (∃ er, e = .panicked (pan er) ∧ SU lo Q W w' ∧ (∃ ws, Dk w' (dft (dsk lo B G) lo d vs) n ws m) ∧ Re er)
/-- What attempt answers. -/
def Tri (lo B G n : Nat) (vs : List Int) (m : Nat) (Q : Nat → Prop) (Rok : List Int → World → Prop) (Re : Int → Prop) (w : World) : Ending → World → Prop := fun e w' =>
  (e = .returned (.int .i64 0) ∧ SU lo Q w w' ∧ ∃ ws, Dk w' (dsk lo B G) n ws (m + 1024) ∧ Rok ws w') ∨ (∃ er, e = .returned (.int .i64 er) ∧ SU lo Q w w' ∧ Dk w' (dsk lo B G) n vs (m + 1024) ∧ Re er)
theorem draft_built (t : TypeId) (b : Nat) : Tryz.prog.built 149 [(0, .iface t (ptr b))] = some #[.iface t (ptr b), .slice none 0 0, .int .i64 0] := by kernel_rfl
theorem build_draft (S : Sto) (W : World) : (Instr.build 149 #[(0, sto S)]).run Tryz.prog W = .ok (.agg #[sto S, .slice none 0 0, .int .i64 0]) W := run_build W _ _ _ (draft_built S.t S.b)
theorem SU.new {lo c : Nat} {Q : Nat → Prop} {w w1 w2 : World} (h : SU lo Q w w1) (hu : Upd c w1 w2) (hc : w.heap.size ≤ c) : SU lo Q w w2 := ⟨hu.os.trans h.os, hu.tape.trans h.tape, hu.output.trans h.output, Nat.le_trans h.size hu.size, fun k hk hs hn => (hu.block k (Nat.lt_of_lt_of_le hk h.size) (by omega)).trans (h.block k hk hs hn)⟩
theorem SU.kept {lo : Nat} {Q : Nat → Prop} {w w' : World} (h : SU lo Q w w') {k : Nat} {cs : Array Value} {t : TypeId} {fr : Nat × Nat} (hk : w.heap[k]? = some (.cells cs t fr)) (ht : stB t = false) (hq : ¬ Q k) : w'.heap[k]? = some (.cells cs t fr) := by
  rw [h.block k (lt_of_heap hk) (Or.inr (not_isSt hk ht)) hq]
  exact hk
set_option maxHeartbeats 2000000 in
set_option maxRecDepth 100000 in
theorem attempt_at {w : World} {lo B G n m m' N : Nat} {vs : List Int} {caps : Array Value} {Q : Nat → Prop} {Rok : List Int → World → Prop} {Re : Int → Prop}
    (h : Dk w (dsk lo B G) n vs m) (hn : n ≤ 1024) (hmm : m ≤ m') (hm : m' ≤ 900000000000) (hQ : ∀ k, Q k → k < w.heap.size)
    (hcf : ∀ (args : Array Value) (W : World), (callFunc N args).run Tryz.prog W = .ok (.enter N args) W)
    (hK : ∀ ws w1 w2, ST lo w1 w2 → Rok ws w1 → Rok ws w2)
    (hK2 : ∀ ws w1 c cs v, w.heap.size ≤ c → w1.heap[c]? = some (Obj.cells cs 40) → Rok ws w1 → Rok ws (w1.setCell ⟨c, 0, none⟩ v))
    (hdo : ∀ W d, Below w.heap.size w W → w.heap.size ≤ d → Dk W (dft (dsk lo B G) lo d vs) n vs m → Calls Tryz.prog N (#[.iface 146 (ptr d)] ++ caps) W (Doe lo B G d n vs m' Q Rok Re W)) :
    Calls Tryz.prog 43 #[sto (dsk lo B G), .func (.func N) #[] caps] w (Tri lo B G n vs m' Q Rok Re w) := by
  have hmf : ∀ (fn : Fn) (first cap : Array Value) (w : World), (Instr.makeFunc fn first cap).run Tryz.prog w = .ok (.func fn first cap) w := fun _ _ _ _ => rfl
  obtain ⟨W0, hW0⟩ : ∃ W, W = w.alloc (.cells #[.int .i64 0] 40) := ⟨_, rfl⟩
  have hb0 : Below w.heap.size w W0 := by rw [hW0]; exact below_alloc _ _
  have hs0 : W0.heap.size = w.heap.size + 1 := by rw [hW0]; simp
  have hr0 : W0.heap[w.heap.size]? = some (.cells #[.int .i64 0] 40) := by rw [hW0]; exact heap_alloc_new _ _
  obtain ⟨W1, hW1⟩ : ∃ W, W = W0.alloc (.cells #[sto (dsk lo B G), .slice none 0 0, .int .i64 0] 149) := ⟨_, rfl⟩
  have hb1 : Below W0.heap.size W0 W1 := by rw [hW1]; exact below_alloc _ _
  have hdk := dft_new (h.below hb0) hn
  rw [← hW1] at hdk
  have hC := hdo W1 W0.heap.size (hb0.trans (hb1.mono hb0.size)) hb0.size hdk
  have HR1 : Hid (W1.heap[w.heap.size]? = some (.cells #[.int .i64 0] 40)) := (hb1.block _ (lt_of_heap hr0)).trans hr0
  have HB1 : Hid (Below w.heap.size w W1) := hb0.trans (hb1.mono hb0.size)
  have HW0 : Hid _ := hW0
  have HW1 : Hid _ := hW1
  have HS0 : Hid (W0.heap.size = w.heap.size + 1) := hs0
  have HQ : Hid (¬ Q w.heap.size) := fun q => by have := hQ _ q; omega
  have HKk : Hid (∀ ws w1 w2, ST lo w1 w2 → Rok ws w1 → Rok ws w2) := hK
  have HK2 : Hid (∀ ws w1 c cs v, w.heap.size ≤ c → w1.heap[c]? = some (Obj.cells cs 40) → Rok ws w1 → Rok ws (w1.setCell ⟨c, 0, none⟩ v)) := hK2
  obtain ⟨c, hc⟩ : ∃ c, c = w.heap.size := ⟨_, rfl⟩
  have Hc : Hid (c = w.heap.size) := hc
  have hbd : ∀ W : World, (Instr.build 149 #[(0, sto (dsk lo B G))]).run Tryz.prog W = .ok (.agg #[sto (dsk lo B G), .slice none 0 0, .int .i64 0]) W := build_draft _
  clear h hb0 hs0 hr0 hb1 hdk hW0 hW1 hdo hQ hK hK2 hc
  go_enter_defers Tryz.func43, Tryz.ntmps43
  go_wp2_with fail
  rw [← HW0.out, ← HW1.out, ← HS0.out, ← Hc.out]
  refine hC.mono ?_
  rintro e w2 (⟨rfl, hsu, ws, hdk2, hR⟩ | ⟨er, rfl, hsu, ⟨ws, hdk2⟩, hRe⟩)
  · obtain ⟨-, P, P0, sv, L, hdf, -⟩ := hdk2
    have hL := flay_at hdf hm
    have h2 : w2.heap[c]? = some (.cells #[.int .i64 0] 40) := hsu.kept (by rw [Hc.out]; exact HR1.out) (by decide) (by rw [Hc.out]; exact HQ.out)
    have H2 : Hid (w2.heap[c]? = some (.cells #[.int .i64 0] 40)) := h2
    have HSU : Hid (SU lo Q w w2) := SU.trans (SU.of_below HB1.out) hsu
    have HR : Hid (Rok ws w2) := hR
    clear hC hsu hdf hR h2
    go_wp2_with fail
    refine hL.mono ?_
    rintro e w3 ⟨rfl, hdk3, hst3⟩
    have h3 := hst3.other H2.out (by decide)
    have c3 : w3.cell? ⟨c, 0, none⟩ = some (.int .i64 0) := by rw [cell_of_heap h3]; rfl
    have f3 : w3.frozen? ⟨c, 0, none⟩ = false := frozen_of_heap h3
    have HE : Hid (SU lo Q w (w3.setCell ⟨c, 0, none⟩ (.int .i64 0)) ∧ ∃ ws, Dk (w3.setCell ⟨c, 0, none⟩ (.int .i64 0)) (dsk lo B G) n ws (m' + 1024) ∧ Rok ws (w3.setCell ⟨c, 0, none⟩ (.int .i64 0))) :=
      ⟨(HSU.out.trans (SU.any hst3)).new (Upd.setCell _ _ _ _) (by rw [Hc.out]; exact Nat.le_refl _), ws, hdk3.other (Upd.setCell c 0 w3 _) (not_isSt h3 (by decide)), HK2.out ws w3 c _ _ (by rw [Hc.out]; exact Nat.le_refl _) h3 (HKk.out ws w2 w3 hst3 HR.out)⟩
    have HC4 : Hid ((w3.setCell ⟨c, 0, none⟩ (.int .i64 0)).cell? ⟨c, 0, none⟩ = some (.int .i64 0)) := by
      rw [cell_of_heap (cs := #[.int .i64 0]) (t := 40) (fr := (0, 0)) (by rw [setCell_eq_setRow w3 c 0 _ _ _ _ h3, setRow_heap w3 c _ _ _ _ h3]; rfl)]
      rfl
    clear hL hdk3 hst3 h3
    go_wp2
    refine leaves_cons (f := 94) (args := #[ptr c]) (by simp) (by simp [go_sem]) ?_
    refine (catch_idle c _).mono ?_
    rintro e u' w'' ⟨rfl, rfl, rfl⟩
    have hc4 := HC4.out
    simp [Leaves, settle, results, Tryz.results43, go_sem, hc4]
    exact Or.inl ⟨rfl, HE.out⟩
  · have h2 : w2.heap[c]? = some (.cells #[.int .i64 0] 40) := hsu.kept (by rw [Hc.out]; exact HR1.out) (by decide) (by rw [Hc.out]; exact HQ.out)
    have c2 : w2.cell? ⟨c, 0, none⟩ = some (.int .i64 0) := by rw [cell_of_heap h2]; rfl
    have f2 : w2.frozen? ⟨c, 0, none⟩ = false := frozen_of_heap h2
    have hE : SU lo Q w (w2.setCell ⟨c, 0, none⟩ (.int .i64 er)) ∧ Dk (w2.setCell ⟨c, 0, none⟩ (.int .i64 er)) (dsk lo B G) n vs (m' + 1024) ∧ Re er :=
      ⟨(SU.trans (SU.of_below HB1.out) hsu).new (Upd.setCell _ _ _ _) (by rw [Hc.out]; exact Nat.le_refl _), ((dft_under hdk2).other (Upd.setCell c 0 w2 _) (not_isSt h2 (by decide))).mono (by omega), hRe⟩
    have hc4 : (w2.setCell ⟨c, 0, none⟩ (.int .i64 er)).cell? ⟨c, 0, none⟩ = some (.int .i64 er) := by
      rw [cell_of_heap (cs := #[.int .i64 er]) (t := 40) (fr := (0, 0)) (by rw [setCell_eq_setRow w2 c 0 _ _ _ _ h2, setRow_heap w2 c _ _ _ _ h2]; rfl)]
      rfl
    refine leaves_cons (f := 94) (args := #[ptr c]) (by simp) (by simp [go_sem]) ?_
    refine (catch_panic c er 0 _ c2 f2).mono ?_
    rintro e u' w'' ⟨rfl, rfl, rfl⟩
    simp [Leaves, settle, results, Tryz.results43, go_sem, hc4]
    exact Or.inr ⟨er, rfl, hE⟩
end Go.Proofs.YtcjpahnlckfgoaaGreatDoor
