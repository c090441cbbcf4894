/- Package inode: Resize. -/
import Derived.Test.YtinjllnoonbjmaaApA
namespace Go.Proofs.Ytinjllnoonbjmaa
open Go.RowKit
set_option linter.unusedVariables false

section
variable {w w' : World} {B G m : Nat} {F : FS}
set_option maxHeartbeats 1000000 in
theorem resize_arg (b : Nat) (i s : Int) (h : isI i = false ∨ s < 0) (w : World) :
    Calls Try.prog 19 #[sto b, .int .i64 i, .int .i64 s] w fun e w' => e = .returned (.int .i64 101) ∧ w' = w := by
  have hI := isInode_at i w
  have hni := sto_nil b
  cases hi : isI i with
  | false =>
    rw [hi] at hI
    clear h hi
    go_enter Try.func19, Try.ntmps19
    go_wp2_with fail
    refine hI.mono ?_
    rintro e w1 ⟨rfl, hw⟩
    rw [hw]
    clear hw w1 hI
    go_wp2
    go_ret
    exact ⟨rfl, rfl⟩
  | true =>
    rw [hi] at hI h
    have hs : s < 0 := by rcases h with h | h; cases h; exact h
    clear h hi
    go_enter Try.func19, Try.ntmps19
    go_wp2_with fail
    refine hI.mono ?_
    rintro e w1 ⟨rfl, hw⟩
    rw [hw]
    clear hw w1 hI
    go_wp2
    go_ret
    exact ⟨rfl, rfl⟩
set_option maxHeartbeats 1000000 in
theorem resize_big (b i : Nat) (hi : i < 32) (s : Int) (h : 192 < s) (w : World) :
    Calls Try.prog 19 #[sto b, .int .i64 (i : Int), .int .i64 s] w fun e w' => e = .returned (.int .i64 27) ∧ w' = w := by
  have hI := isInode_at (i : Int) w
  rw [isI_nat hi] at hI
  have hni := sto_nil b
  have hs0 : ¬ s < 0 := by omega
  go_enter Try.func19, Try.ntmps19
  go_wp2_with fail
  refine hI.mono ?_
  rintro e w1 ⟨rfl, hw⟩
  rw [hw]
  clear hw w1 hI
  go_wp2
  go_ret
  exact ⟨rfl, rfl⟩
theorem Opened.op {vs : List Int} {i bf : Nat} (h : Opened w w' B G i bf F vs m) (hi : i < 32) (hH : Holds vs F) (hF : FInv F) : ∃ X : FX, X.bf = bf ∧ X.base = w.heap.size ∧ X.B = B ∧ X.G = G ∧ OpF w' X F vs m i ∧ Fr X w w' := by
  obtain ⟨X, h1, h2, h3, h4, h5, h6, h7, h8⟩ := h
  exact ⟨X, h1, h2, h3, h4, ⟨h7, h5, h6, hi, hH, hF⟩, h8⟩
set_option maxHeartbeats 2000000 in
theorem resize_no (h : Fs w B G F m) (hm : m ≤ 900000) (i s : Nat) (hi : i < 32) (hs : s ≤ 192) (hr : roomB F i s = false) :
    Calls Try.prog 19 #[sto B, .int .i64 (i : Int), .int .i64 (s : Int)] w fun e w' => e = .returned (.int .i64 28) ∧ Fs w' B G F (m + 2000) ∧ BG B G w w' := by
  obtain ⟨vs, h⟩ := h
  have HI : Hid (Holds vs F ∧ FInv F) := ⟨h.hold, h.inv⟩
  have hI := isInode_at (i : Int) w
  rw [isI_nat hi] at hI
  have hni := sto_nil B
  have hO := open_at h hm i hi
  have hs0 : ¬ (s : Int) < 0 := by omega
  have hs1 : ¬ (192 : Int) < (s : Int) := by omega
  clear h
  go_enter Try.func19, Try.ntmps19
  go_wp2_with fail
  refine hI.mono ?_
  rintro e w1 ⟨rfl, hw⟩
  rw [hw]
  clear hw w1 hI
  go_wp2_with fail
  refine hO.mono ?_
  rintro e w1 ⟨bf, rfl, hop⟩
  obtain ⟨X, hbf, hbase, hXB, hXG, hopf, hfr⟩ := hop.op hi HI.out.1 HI.out.2
  subst hbf
  have HX : Hid (X.base = w.heap.size ∧ X.B = B ∧ X.G = G) := ⟨hbase, hXB, hXG⟩
  have hR := fresize_no hopf s hs hr
  have HFr : Hid (Fr X w w1) := hfr
  have HOp : Hid (OpF w1 X F vs m i) := hopf
  clear hO hop hbase hXB hXG hopf hfr
  go_wp2_with fail
  refine hR.mono ?_
  rintro e w2 ⟨rfl, hb2⟩
  have HB2 : Hid (Below w1.heap.size w1 w2) := hb2
  clear hR hb2
  go_wp2
  go_ret
  obtain ⟨h1, h2, h3⟩ := HX.out
  obtain ⟨gt, pt, hk, q1, q2⟩ := HOp.out.fl.dr.disk
  rw [h2, h3, HOp.out.n] at hk
  exact ⟨rfl, ⟨vs, ⟨gt, pt, hk.below HB2.out, by omega, by omega⟩, HI.out.1, HI.out.2⟩, (bg_fr HFr.out (by omega) h2).trans (UpdP.of_below HB2.out)⟩
theorem fit_new {i s : Nat} (hF : FInv F) (hi : i < 32) (hu : Bi.bt F.iw i = true) (hs : s ≤ 192) (hr : roomB F i s = true) : ∀ x ∈ rowOf (F.ino i).kind (F.ino i).links (s : Int) (six (fun j => (newBlk F i s).getD j 0)), Fit x := by
  have hG := hF.resize hi hu hs hr
  have e0 : (resizeF F i s).ino i = ⟨(F.ino i).kind, (F.ino i).links, sized (F.ino i).txt s, newBlk F i s⟩ := FS.put_same _ _ _ _
  have h1 := hG.fit hi
  have h2 := row_six (hG.six hi)
  rw [e0] at h1 h2
  simp only [sized_len] at h2
  rw [h2] at h1
  exact h1
/-- What close leaves is a file system. -/
theorem closed_fs {X : FX} {w1 w2 : World} {us : List Int} {F' : FS} {m' : Nat} (hX : X.base = w.heap.size ∧ X.B = B ∧ X.G = G) (hd : ∃ gt pt, Di.DiskAt w2 X.B X.G X.n us gt pt ∧ gt ≤ m' + 1024 ∧ pt ≤ m' + 1024) (hn : X.n = F'.n) (hH : Holds us F') (hF : FInv F') (hu : UpdP (fun k => k = X.B ∨ k = X.G ∨ X.base ≤ k) w1 w2) (h1 : Fr X w w1) (hm : m' + 1024 ≤ m + 2000) : Fs w2 B G F' (m + 2000) ∧ BG B G w w2 := by
  obtain ⟨h1', h2', h3'⟩ := hX
  obtain ⟨gt, pt, hk, q1, q2⟩ := hd
  rw [h2', h3', hn] at hk
  refine ⟨⟨us, ⟨gt, pt, hk, by omega, by omega⟩, hH, hF⟩, ?_⟩
  have a1 : BG B G w w1 := bg_fr h1 (by omega) h2'
  refine ⟨hu.os.trans a1.os, hu.tape.trans a1.tape, hu.output.trans a1.output, Nat.le_trans a1.size hu.size, fun k hk hn => ?_⟩
  refine (hu.block k (Nat.lt_of_lt_of_le hk a1.size) (fun e => ?_)).trans (a1.block k hk hn)
  rcases e with e | e | e
  · exact hn (Or.inl (e.trans h2'))
  · exact hn (Or.inr (e.trans h3'))
  · omega
set_option maxHeartbeats 2000000 in
theorem resize_yes (h : Fs w B G F m) (hm : m ≤ 900000) (i s : Nat) (hi : i < 32) (hu : Bi.bt F.iw i = true) (hs : s ≤ 192) (hr : roomB F i s = true) :
    Calls Try.prog 19 #[sto B, .int .i64 (i : Int), .int .i64 (s : Int)] w fun e w' => e = .returned (.int .i64 0) ∧ Fs w' B G (resizeF F i s) (m + 2000) ∧ BG B G w w' := by
  obtain ⟨vs, h⟩ := h
  have HI : Hid (Holds vs F ∧ FInv F) := ⟨h.hold, h.inv⟩
  have hI := isInode_at (i : Int) w
  rw [isI_nat hi] at hI
  have hni := sto_nil B
  have hO := open_at h hm i hi
  have hs0 : ¬ (s : Int) < 0 := by omega
  have hs1 : ¬ (192 : Int) < (s : Int) := by omega
  have HU : Hid (Bi.bt F.iw i = true) := hu
  have HR : Hid (roomB F i s = true) := hr
  clear h hu hr
  go_enter Try.func19, Try.ntmps19
  go_wp2_with fail
  refine hI.mono ?_
  rintro e w1 ⟨rfl, hw⟩
  rw [hw]
  clear hw w1 hI
  go_wp2_with fail
  refine hO.mono ?_
  rintro e w1 ⟨bf, rfl, hop⟩
  obtain ⟨X, hbf, hbase, hXB, hXG, hopf, hfr⟩ := hop.op hi HI.out.1 HI.out.2
  subst hbf
  have HX : Hid (X.base = w.heap.size ∧ X.B = B ∧ X.G = G) := ⟨hbase, hXB, hXG⟩
  have hR := fresize_yes hopf hm HU.out s hs HR.out
  have HFr : Hid (Fr X w w1) := hfr
  have HOp : Hid (OpF w1 X F vs m i) := hopf
  clear hO hop hbase hXB hXG hopf hfr
  go_wp2_with fail
  refine hR.mono ?_
  rintro e w2 ⟨rfl, ⟨us, hfl, hrz⟩, hfr2⟩
  have HFr2 : Hid (Fr X w w2) := HFr.out.trans hfr2
  have HRz : Hid (RZ F i s vs us) := hrz
  have hC := fclose_at hfl hm (by have := HX.out; have := HFr2.out.size; omega) (by rw [HOp.out.n]; exact HI.out.2.n1) (by rw [HOp.out.xi]; exact hi) (fit_new HI.out.2 hi HU.out hs HR.out)
  clear hR hfl hrz hfr2
  go_wp2_with fail
  refine hC.mono ?_
  rintro e w3 ⟨rfl, hd3, hu3⟩
  have HE : Hid (Fs w3 B G (resizeF F i s) (m + 2000) ∧ BG B G w w3) := by
    refine closed_fs HX.out hd3 HOp.out.n ?_ (HI.out.2.resize hi HU.out hs HR.out) hu3 HFr2.out (by omega)
    rw [HOp.out.n, HOp.out.xi]
    exact resize_holds HI.out.2 HI.out.1 hi HU.out hs HR.out HRz.out
  clear hC hd3 hu3
  go_wp2
  go_ret
  exact ⟨rfl, HE.out.1, HE.out.2⟩
end
end Go.Proofs.Ytinjllnoonbjmaa
