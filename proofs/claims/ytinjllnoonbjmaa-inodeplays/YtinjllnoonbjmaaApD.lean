/- Package inode: Free. -/
import Derived.Test.YtinjllnoonbjmaaApC
namespace Go.Proofs.Ytinjllnoonbjmaa
open Go.RowKit
set_option linter.unusedVariables false

section
variable {w w' : World} {B G m : Nat} {F : FS}
set_option maxHeartbeats 1000000 in
theorem free_arg (b : Nat) (i : Int) (hi : isI i = false) (w : World) :
    Calls Try.prog 13 #[sto b, .int .i64 i] w fun e w' => e = .returned (.int .i64 101) ∧ w' = w := by
  have hI := isInode_at i w
  have hni := sto_nil b
  rw [hi] at hI
  clear hi
  go_enter Try.func13, Try.ntmps13
  go_wp2_with fail
  refine hI.mono ?_
  rintro e w1 ⟨rfl, hw⟩
  rw [hw]
  clear hw w1 hI
  go_wp2
  go_ret
  exact ⟨rfl, rfl⟩
theorem list6 {l : List Nat} (h : l.length = 6) : ∃ a b c d e f, l = [a, b, c, d, e, f] := by
  match l, h with
  | [a, b, c, d, e, f], _ => exact ⟨a, b, c, d, e, f, rfl⟩
theorem six_zero : six (fun _ => 0) = [0, 0, 0, 0, 0, 0] := rfl
/-- A file's inode is laid as none. -/
theorem FlAt.clear {X : FX} {vs ws : List Int} {iw bw : List Nat} {kd lk sz : Int} {bl : List Nat} (h : FlAt w X vs ws m iw bw kd lk sz bl) : FlAt (w.setCells X.bf 4 zi.toList) X vs ws m iw bw 0 0 0 [0, 0, 0, 0, 0, 0] ∧ Fr X w (w.setCells X.bf 4 zi.toList) := by
  obtain ⟨h1, h2⟩ := setCells_heap X.bf zi.toList 4 w _ _ h.head
  have hb := h.bl6
  have e : setL (fRow X kd lk sz bl) 4 zi.toList = fRow X 0 0 0 [0, 0, 0, 0, 0, 0] := by
    obtain ⟨a, b, c, d, e, f, hbl⟩ := list6 hb
    rw [hbl]
    clear hbl hb h1 h2 h
    have e1 : ∀ (k l s : Int) (a b c d e f : Nat), fRow X k l s [a, b, c, d, e, f] = #[ptr X.bd, ptr X.hi, ptr X.hb, .int .i64 (X.i : Int), .int .i64 k, .int .i64 l, .int .i64 s, .int .i64 (a : Int), .int .i64 (b : Int), .int .i64 (c : Int), .int .i64 (d : Int), .int .i64 (e : Int), .int .i64 (f : Int)] := fun _ _ _ _ _ _ _ _ _ => rfl
    have e2 : zi.toList = [.int .i64 0, .int .i64 0, .int .i64 0, .int .i64 0, .int .i64 0, .int .i64 0, .int .i64 0, .int .i64 0, .int .i64 0] := rfl
    rw [e1, e1, e2]
    simp only [setL, List.setIfInBounds_toArray, List.set_cons_zero, List.set_cons_succ, Nat.reduceAdd]
    rfl
  rw [e] at h1
  refine ⟨⟨h1, h.dr.other h2 h.lo h.notD, h.bm.other h2 (fun cs => ?_), rfl, h.lo⟩, h2.fr h.lo⟩
  rw [h.head]
  constructor <;> (intro e; simp only [Option.some.injEq, Obj.cells.injEq] at e; exact absurd e.2.1 (by decide))
theorem FlAt.there {X : FX} {vs ws : List Int} {iw bw : List Nat} {kd lk sz : Int} {bl : List Nat} (h : FlAt w X vs ws m iw bw kd lk sz bl) : w.there X.bf 4 9 := fun j hj => by
  refine ⟨?_, h.free _⟩
  have hr := h.range
  have hl : ((rowOf kd lk sz bl).map (Value.int .i64)).length = 9 := by rw [List.length_map, rowOf_len h.bl6]
  rw [hr j _ (List.getElem?_eq_getElem (by omega))]
  rfl
set_option maxHeartbeats 4000000 in
set_option maxRecDepth 100000 in
theorem free_yes (h : Fs w B G F m) (hm : m ≤ 900000) (i : Nat) (hi : i < 32) (hi0 : i ≠ 0) (hu : Bi.bt F.iw i = true) :
    Calls Try.prog 13 #[sto B, .int .i64 (i : Int)] w fun e w' => e = .returned (.int .i64 0) ∧ Fs w' B G (freeF F i) (m + 2000) ∧ BG B G w w' := by
  obtain ⟨vs, h⟩ := h
  have HI : Hid (Holds vs F ∧ FInv F) := ⟨h.hold, h.inv⟩
  have hI := isInode_at (i : Int) w
  rw [isI_nat hi] at hI
  have hni := sto_nil B
  have hO := open_at h hm i hi
  have HU : Hid (Bi.bt F.iw i = true) := hu
  have HL6 : Hid ((F.ino i).blk.length ≤ 6) := h.inv.six hi
  clear h hu
  go_enter Try.func13, Try.ntmps13
  go_wp2_with fail
  refine hI.mono ?_
  rintro e w1 ⟨rfl, hw⟩
  rw [hw]
  clear hw w1 hI
  go_wp2_with fail
  refine hO.mono ?_
  rintro e w1 ⟨bf, rfl, hop⟩
  obtain ⟨X, hbf, hbase, hXB, hXG, hopf, hfr⟩ := hop.op hi HI.out.1 HI.out.2
  subst hbf
  have HX : Hid (X.base = w.heap.size ∧ X.B = B ∧ X.G = G) := ⟨hbase, hXB, hXG⟩
  have HFr : Hid (Fr X w w1) := hfr
  have HOp : Hid (OpF w1 X F vs m i) := hopf
  have HXn : Hid (X.n = F.n) := hopf.n
  clear hO hop hbase hXB hXG hopf hfr
  go_wp2
  go_loopw [24] (fun z wr => ∃ (k : Nat) (us : List Int) (bl bw' Z : List Nat), k ≤ 6 ∧ z = .int .i64 k ∧ FlAt wr X vs us m F.iw bw' (F.ino i).kind (F.ino i).links ((F.ino i).txt.length : Int) bl ∧ Fr X w wr ∧ Hid (RS F.n (F.ino i).blk F.bw 0 k bl bw' Z ∧ ZW F.n vs Z us)) (fun z _ => 6 - (intOf z).toNat)
  case atStart => exact ⟨0, vs, _, _, [], by omega, rfl, HOp.out.fl, HFr.out, RS.start _ _ _ _, ZW.refl _ _⟩
  case round =>
    obtain ⟨k, us, bl, bw', Z, hk, rfl, hF, hfr, HR⟩ := hrel
    have HF : Hid (FlAt wr X vs us m F.iw bw' (F.ino i).kind (F.ino i).links ((F.ino i).txt.length : Int) bl) := hF
    have HFr' : Hid (Fr X w wr) := hfr
    have hvl : vs.length = F.n * 32 := HI.out.1.len
    by_cases hlt6 : k < 6
    · have hki : decide ((k : Int) < 6) = true := by simp; omega
      have hk6 : (k : Int) < 6 := by omega
      by_cases hkl : k < (F.ino i).blk.length
      · obtain ⟨r1, r2⟩ := HR.out.1.drop (by omega) hkl HL6.out
        have hdat := HI.out.2.data i hi _ (List.getElem_mem hkl)
        have hgk : (F.ino i).blk.getD k 0 = (F.ino i).blk[k] := by rw [List.getD_eq_getElem?_getD, List.getElem?_eq_getElem hkl]; rfl
        rw [← hgk] at hdat
        have hD := fdrop_yes hF hm k _ hlt6 r1 (isDat_yes hdat.1 (by rw [HXn.out]; exact hdat.2.1))
        have HZ2 : Hid (ZW F.n vs (Z ++ [(F.ino i).blk.getD k 0]) (splice us ((F.ino i).blk.getD k 0 * 32) (List.replicate 32 0))) := HR.out.2.snoc hvl hdat.2.1
        have HR2 : Hid _ := r2
        clear hF hfr r1 r2 hdat hgk hkl hvl
        go_wp2_with fail
        refine hD.mono ?_
        rintro e w3 ⟨rfl, h3, f3⟩
        have H3 : Hid _ := h3
        have HF3 : Hid (Fr X w w3) := HFr'.out.trans f3
        clear hD h3 f3
        go_wp2
        go_roundw
        case rel => exact ⟨k + 1, _, _, _, _, by omega, by go_num, H3.out, HF3.out, HR2.out, HZ2.out⟩
        case measure => simp [intOf]; omega
      · obtain ⟨r1, r2⟩ := HR.out.1.none (by omega) (by omega) hlt6 (by rw [Nat.zero_sub]; rfl)
        have hD := fdrop_no hF k hlt6 (by rw [r1]; exact isDat_zero _)
        have HR2 : Hid _ := r2
        clear hF hfr r1 r2 hkl hvl
        go_wp2_with fail
        refine hD.mono ?_
        rintro e w3 ⟨rfl, h3, f3⟩
        have H3 : Hid _ := h3
        have HF3 : Hid (Fr X w w3) := HFr'.out.trans f3
        clear hD h3 f3
        go_wp2
        go_roundw
        case rel => exact ⟨k + 1, _, _, _, _, by omega, by go_num, H3.out, HF3.out, HR2.out, HR.out.2⟩
        case measure => simp [intOf]; omega
    · have hki : decide ((k : Int) < 6) = false := by simp; omega
      have hk6 : ¬ (k : Int) < 6 := by omega
      have hk0 : k = 6 := by omega
      have hRS := HR.out.1
      rw [hk0] at hRS
      obtain ⟨r1, r2, r3⟩ := hRS.done (by omega) HL6.out
      have hbw : bw' = newBw F i 0 := r2
      have HZs : Hid (∀ b, b ∈ Z ↔ b ∈ (F.ino i).blk) := fun b => by
        rw [r3 b, Nat.zero_sub]
        simp [grow]
      subst hbw
      obtain ⟨h4, f4⟩ := hF.clear
      obtain ⟨W4, hW4⟩ : ∃ W, W = wr.setCells X.bf 4 zi.toList := ⟨_, rfl⟩
      have HW4 : Hid _ := hW4
      rw [← hW4] at h4 f4
      have HTh : Hid (wr.there X.bf 4 9) := hF.there
      obtain ⟨c0, c1, c2, c3, c4, c5, c6⟩ := h4.c
      have hM := Bi.mark_yes X.hi X.gi 32 F.iw i false W4 h4.bm.bi hi
      have H4 : Hid (FlAt W4 X vs us m F.iw (newBw F i 0) 0 0 0 [0, 0, 0, 0, 0, 0]) := h4
      have HF4 : Hid (Fr X w W4) := HFr'.out.trans f4
      have hz := lit_zi
      clear hF hfr hk0 hRS r1 r3 h4 f4 hW4 c0 c2 c3 c4 c5 c6 hvl
      go_wp2_with (first
        | (refine wpList_store_mid rfl 47 _ _ rfl X.bf 4 zi rfl rfl HTh.out (by kernel_rfl) (irow_one _) ?_; rw [← HW4.out])
        | fail)
      refine hM.mono ?_
      rintro e w5 ⟨rfl, hB5, hu5⟩
      obtain ⟨h5, f5⟩ := H4.out.setiw hB5 hu5
      have HF5 : Hid (Fr X w w5) := HF4.out.trans f5
      have hC := fclose_at h5 hm (by have := HX.out; have := HF5.out.size; omega) (by rw [HXn.out]; exact HI.out.2.n1) (by rw [HOp.out.xi]; exact hi) (by
        intro x hx
        simp [rowOf] at hx
        rw [hx]
        exact ⟨by omega, by omega⟩)
      clear hM hB5 hu5 h5 f5 c1 hz
      go_wp2_with fail
      refine hC.mono ?_
      rintro e w6 ⟨rfl, hd6, hu6⟩
      have HE : Hid (Fs w6 B G (freeF F i) (m + 2000) ∧ BG B G w w6) := by
        obtain ⟨hH, hFi⟩ := HI.out
        have hfree := hFi.free hi hi0 HU.out
        refine closed_fs HX.out hd6 HXn.out ?_ hfree hu6 HF5.out (by omega)
        rw [HXn.out, HOp.out.xi, put2_free]
        have hZ := HR.out.2
        refine holds_close hH hFi hi (x := Ino.no) (by simp [Ino.no]) hfree.iw.len (by have := hfree.bw.len; have h2 := hFi.n2; have e1 : (freeF F i).bw = newBw F i 0 := rfl; have e2 : (freeF F i).n = F.n := rfl; rw [e1, e2] at this; omega) hZ.len (fun b hb => ?_) (fun k b hb => by simp [Ino.no] at hb) (fun m' hm' hne b hb => ?_)
        · have hn := hFi.n1
          rw [hZ.fr b (by omega), if_neg (fun hm => by have := (hFi.data i hi b ((HZs.out b).1 hm)).1; omega)]
        · have hdat := hFi.data m' hm' b hb
          rw [hZ.fr b hdat.2.1, if_neg (fun hm => hne (hFi.one m' i hm' hi b hb ((HZs.out b).1 hm)))]
      clear hC hd6 hu6
      go_wp2
      go_ret
      exact ⟨rfl, HE.out.1, HE.out.2⟩
end
end Go.Proofs.Ytinjllnoonbjmaa
