/- Package inode: Write. -/
import Derived.Test.YtinjllnoonbjmaaApC
namespace Go.Proofs.Ytinjllnoonbjmaa
open Go.RowKit
set_option linter.unusedVariables false

section
variable {w w' : World} {B G m : Nat} {F : FS}
set_option maxHeartbeats 1000000 in
theorem write_arg (b : Nat) (i o : Int) (l : List UInt8) (h : isI i = false ∨ o < 0) (w : World) :
    Calls Try.prog 17 #[sto b, .int .i64 i, .int .i64 o, tx l] w fun e w' => e = .returned (.int .i64 101) ∧ w' = w := by
  have hI := isInode_at i w
  have hni := sto_nil b
  cases hi : isI i with
  | false =>
    rw [hi] at hI
    clear h hi
    go_enter Try.func17, Try.ntmps17
    go_wp2_with fail
    refine hI.mono ?_
    rintro e w1 ⟨rfl, hw⟩
    rw [hw]
    clear hw w1 hI
    go_wp2
    go_ret
    exact ⟨rfl, rfl⟩
  | true =>
    rw [hi] at hI h
    have hs : o < 0 := by rcases h with h | h; cases h; exact h
    clear h hi
    go_enter Try.func17, Try.ntmps17
    go_wp2_with fail
    refine hI.mono ?_
    rintro e w1 ⟨rfl, hw⟩
    rw [hw]
    clear hw w1 hI
    go_wp2
    go_ret
    exact ⟨rfl, rfl⟩
set_option maxHeartbeats 1000000 in
theorem write_big (b i : Nat) (hi : i < 32) (o : Nat) (l : List UInt8) (hl : l.length ≤ 9223372036854775807) (h : 192 < (o : Int) + l.length) (w : World) :
    Calls Try.prog 17 #[sto b, .int .i64 (i : Int), .int .i64 (o : Int), tx l] w fun e w' => e = .returned (.int .i64 27) ∧ w' = w := by
  have hI := isInode_at (i : Int) w
  rw [isI_nat hi] at hI
  have hni := sto_nil b
  have ho0 : ¬ (o : Int) < 0 := by omega
  have hln := run_len_text l
  obtain ⟨N, hN⟩ : ∃ N, N = l.length := ⟨_, rfl⟩
  obtain ⟨sv, hsv⟩ : ∃ v, v = tx l := ⟨_, rfl⟩
  rw [← hN] at hln hl h
  rw [← hsv] at hln ⊢
  have hgt : (192 : Int) - (N : Int) < (o : Int) := by omega
  have hws : IntKind.i64.wrap ((192 : Int) - (N : Int)) = (192 : Int) - (N : Int) := by
    simp [IntKind.wrap, IntKind.bits, IntKind.signed]
    omega
  clear hN hsv
  go_enter Try.func17, Try.ntmps17
  go_wp2_with fail
  refine hI.mono ?_
  rintro e w1 ⟨rfl, hw⟩
  rw [hw]
  clear hw w1 hI
  go_wp2
  go_ret
  exact ⟨rfl, rfl⟩
set_option maxHeartbeats 1000000 in
theorem write_none (b i : Nat) (hi : i < 32) (o : Nat) (ho : o ≤ 192) (w : World) :
    Calls Try.prog 17 #[sto b, .int .i64 (i : Int), .int .i64 (o : Int), tx []] w fun e w' => e = .returned (.int .i64 0) ∧ w' = w := by
  have hI := isInode_at (i : Int) w
  rw [isI_nat hi] at hI
  have hni := sto_nil b
  have ho0 : ¬ (o : Int) < 0 := by omega
  have ho1 : ¬ (192 : Int) < (o : Int) := by omega
  go_enter Try.func17, Try.ntmps17
  go_wp2_with fail
  refine hI.mono ?_
  rintro e w1 ⟨rfl, hw⟩
  rw [hw]
  clear hw w1 hI
  go_wp2
  go_ret
  exact ⟨rfl, rfl⟩
set_option maxHeartbeats 2000000 in
theorem write_no (h : Fs w B G F m) (hm : m ≤ 900000) (i o : Nat) (l : List UInt8) (hi : i < 32) (hl : l ≠ []) (hs : o + l.length ≤ 192) (hr : roomB F i (max (F.ino i).txt.length (o + l.length)) = false) :
    Calls Try.prog 17 #[sto B, .int .i64 (i : Int), .int .i64 (o : Int), tx l] w fun e w' => e = .returned (.int .i64 28) ∧ Fs w' B G F (m + 2000) ∧ BG B G w w' := by
  obtain ⟨vs, h⟩ := h
  have HI : Hid (Holds vs F ∧ FInv F) := ⟨h.hold, h.inv⟩
  have hI := isInode_at (i : Int) w
  rw [isI_nat hi] at hI
  have hni := sto_nil B
  have hO := open_at h hm i hi
  have ho0 : ¬ (o : Int) < 0 := by omega
  have hl0 : l.isEmpty = false := by simpa using hl
  have hmx := h.inv.max i hi
  obtain ⟨N, hN⟩ : ∃ N, N = l.length := ⟨_, rfl⟩
  obtain ⟨sb, hsv⟩ : ∃ v : ByteArray, v = ⟨l.toArray⟩ := ⟨_, rfl⟩
  have hsz : sb.size = N := by rw [hsv, hN]; simp [ByteArray.size]
  have hst : sb.toList = l := by rw [hsv]; exact ByteArray.toList_mk l
  rw [← hN] at hs hr
  have htx : tx l = .string sb := by rw [hsv]
  rw [htx]
  clear htx
  have hgt : ¬ (192 : Int) - (N : Int) < (o : Int) := by omega
  clear h hN hsv hl
  go_enter Try.func17, Try.ntmps17
  go_wp2_with fail
  refine hI.mono ?_
  rintro e w1 ⟨rfl, hw⟩
  rw [hw]
  clear hw w1 hI
  go_wp2_with fail
  refine hO.mono ?_
  rintro e w1 ⟨bf, rfl, hop⟩
  obtain ⟨X, hbf, hbase, hXB, hXG, hopf, hfr⟩ := hop.op hi HI.out.1 HI.out.2
  subst hbf
  have HX : Hid (X.base = w.heap.size ∧ X.B = B ∧ X.G = G) := ⟨hbase, hXB, hXG⟩
  have hR := fresize_no hopf (max (F.ino i).txt.length (o + N)) (by omega) hr
  have HFr : Hid (Fr X w w1) := hfr
  have HOp : Hid (OpF w1 X F vs m i) := hopf
  obtain ⟨c0, c1, c2, c3, c4, c5, c6⟩ := hopf.fl.c
  obtain ⟨L, hL⟩ : ∃ L, L = (F.ino i).txt.length := ⟨_, rfl⟩
  rw [← hL] at c6 hR
  obtain ⟨s, hsq⟩ : ∃ s, s = max L (o + N) := ⟨_, rfl⟩
  rw [← hsq] at hR
  have hmxx : max (L : Int) ((o : Int) + (N : Int)) = (s : Int) := by omega
  clear hO hop hbase hXB hXG hopf hfr c0 c1 c2 c3 c4 c5 hL hsq hr
  go_wp2_with fail
  refine hR.mono ?_
  rintro e w2 ⟨rfl, hb2⟩
  have HB2 : Hid (Below w1.heap.size w1 w2) := hb2
  clear hR hb2
  go_wp2
  go_ret
  obtain ⟨h1, h2, h3⟩ := HX.out
  obtain ⟨gt, pt, hk, q1, q2⟩ := HOp.out.fl.dr.disk
  rw [h2, h3, HOp.out.n] at hk
  exact ⟨rfl, ⟨vs, ⟨gt, pt, hk.below HB2.out, by omega, by omega⟩, HI.out.1, HI.out.2⟩, (bg_fr HFr.out (by omega) h2).trans (UpdP.of_below HB2.out)⟩
set_option maxHeartbeats 2000000 in
theorem write_yes (h : Fs w B G F m) (hm : m ≤ 900000) (i o : Nat) (l : List UInt8) (hi : i < 32) (hu : Bi.bt F.iw i = true) (hl : l ≠ []) (hs : o + l.length ≤ 192) (hr : roomB F i (max (F.ino i).txt.length (o + l.length)) = true) :
    Calls Try.prog 17 #[sto B, .int .i64 (i : Int), .int .i64 (o : Int), tx l] w fun e w' => e = .returned (.int .i64 0) ∧ Fs w' B G (writeF F i o (nums l)) (m + 2000) ∧ BG B G w w' := by
  obtain ⟨vs, h⟩ := h
  have HI : Hid (Holds vs F ∧ FInv F) := ⟨h.hold, h.inv⟩
  have hI := isInode_at (i : Int) w
  rw [isI_nat hi] at hI
  have hni := sto_nil B
  have hO := open_at h hm i hi
  have ho0 : ¬ (o : Int) < 0 := by omega
  have hl0 : l.isEmpty = false := by simpa using hl
  have hmx := h.inv.max i hi
  obtain ⟨N, hN⟩ : ∃ N, N = l.length := ⟨_, rfl⟩
  obtain ⟨sb, hsv⟩ : ∃ v : ByteArray, v = ⟨l.toArray⟩ := ⟨_, rfl⟩
  have hsz : sb.size = N := by rw [hsv, hN]; simp [ByteArray.size]
  have hst : sb.toList = l := by rw [hsv]; exact ByteArray.toList_mk l
  rw [← hN] at hs hr
  have htx : tx l = .string sb := by rw [hsv]
  rw [htx]
  clear htx
  have hgt : ¬ (192 : Int) - (N : Int) < (o : Int) := by omega
  have HU : Hid (Bi.bt F.iw i = true) := hu
  have HR : Hid (roomB F i (max (F.ino i).txt.length (o + N)) = true) := hr
  have HN : Hid (N = l.length ∧ sb = ⟨l.toArray⟩) := ⟨hN, hsv⟩
  clear h hN hsv hl hu hr
  go_enter Try.func17, Try.ntmps17
  go_wp2_with fail
  refine hI.mono ?_
  rintro e w1 ⟨rfl, hw⟩
  rw [hw]
  clear hw w1 hI
  go_wp2_with fail
  refine hO.mono ?_
  rintro e w1 ⟨bf, rfl, hop⟩
  obtain ⟨X, hbf, hbase, hXB, hXG, hopf, hfr⟩ := hop.op hi HI.out.1 HI.out.2
  subst hbf
  have HX : Hid (X.base = w.heap.size ∧ X.B = B ∧ X.G = G) := ⟨hbase, hXB, hXG⟩
  have hR := fresize_yes hopf hm HU.out (max (F.ino i).txt.length (o + N)) (by omega) HR.out
  have HFr : Hid (Fr X w w1) := hfr
  have HOp : Hid (OpF w1 X F vs m i) := hopf
  obtain ⟨c0, c1, c2, c3, c4, c5, c6⟩ := hopf.fl.c
  obtain ⟨L, hL⟩ : ∃ L, L = (F.ino i).txt.length := ⟨_, rfl⟩
  have HL : Hid (L = (F.ino i).txt.length) := hL
  rw [← hL] at c6 hR HR hmx
  obtain ⟨s, hsq⟩ : ∃ s, s = max L (o + N) := ⟨_, rfl⟩
  have Hsq : Hid (s = max L (o + N)) := hsq
  have hs192 : s ≤ 192 := by omega
  rw [← hsq] at hR HR
  have hmxx : max (L : Int) ((o : Int) + (N : Int)) = (s : Int) := by omega
  clear hO hop hbase hXB hXG hopf hfr c0 c1 c2 c3 c4 c5 hL hsq
  go_wp2_with fail
  refine hR.mono ?_
  rintro e w2 ⟨rfl, ⟨us, hfl, hrz⟩, hfr2⟩
  have HFr2 : Hid (Fr X w w2) := HFr.out.trans hfr2
  have HRz : Hid (RZ F i s vs us) := hrz
  have hG := HI.out.2.resize hi HU.out hs192 HR.out
  have hok := hG.ok hi
  have e0 : (resizeF F i s).ino i = ⟨(F.ino i).kind, (F.ino i).links, sized (F.ino i).txt s, newBlk F i s⟩ := FS.put_same _ _ _ _
  rw [e0] at hok
  have hnl := newBlk_len HI.out.2 hi HR.out
  have hW := fwrite_at hfl hm (sized (F.ino i).txt s) o l hok.nd (fun b hb => by rw [HOp.out.n]; exact (hok.data b hb).2.1) (by rw [hnl, sized_len]) (by rw [sized_len]; exact hs192) (by rw [sized_len]; have := Hsq.out; have := HN.out.1; omega) hrz.data
  have htx : tx l = .string sb := by rw [HN.out.2]
  rw [htx] at hW
  clear htx
  clear hR hfl hrz hfr2 hG hok e0 hnl
  go_wp2_with fail
  refine hW.mono ?_
  rintro e w3 ⟨rfl, ⟨u3, hfl3, hwz⟩, hfr3⟩
  have HFr3 : Hid (Fr X w w3) := HFr2.out.trans hfr3
  have HWz : Hid (WZ X.n (newBlk F i s) (sized (F.ino i).txt s) o (nums l) l.length us u3) := hwz
  have hC := fclose_at hfl3 hm (by have := HX.out; have := HFr3.out.size; omega) (by rw [HOp.out.n]; exact HI.out.2.n1) (by rw [HOp.out.xi]; exact hi) (fit_new HI.out.2 hi HU.out hs192 HR.out)
  clear hW hfl3 hwz hfr3
  go_wp2_with fail
  refine hC.mono ?_
  rintro e w4 ⟨rfl, hd4, hu4⟩
  have HE : Hid (Fs w4 B G (writeF F i o (nums l)) (m + 2000) ∧ BG B G w w4) := by
    have hsl : s = max (F.ino i).txt.length (o + (nums l).length) := by rw [nums_len, ← HN.out.1, ← HL.out]; exact Hsq.out
    have hnl : o + (nums l).length ≤ 192 := by rw [nums_len, ← HN.out.1]; exact hs
    have hR' := HR.out
    have hz' := HRz.out
    have hw' := HWz.out
    rw [HOp.out.n, ← nums_len l] at hw'
    refine closed_fs HX.out hd4 HOp.out.n ?_ (HI.out.2.write hi HU.out hnl (nums_byte l) (by rw [← hsl]; exact hR')) hu4 HFr3.out (by omega)
    rw [HOp.out.n, HOp.out.xi]
    rw [hsl] at hR' hz' hw' ⊢
    exact write_holds HI.out.2 HI.out.1 hi HU.out hnl hR' hz' hw'
  clear hC hd4 hu4
  go_wp2
  go_ret
  exact ⟨rfl, HE.out.1, HE.out.2⟩
end
end Go.Proofs.Ytinjllnoonbjmaa
