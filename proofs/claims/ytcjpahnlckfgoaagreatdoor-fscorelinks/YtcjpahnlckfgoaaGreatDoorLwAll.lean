/- Package inode over a store: Get of a file system. -/
/- Package inode: Free. -/
/- Package inode: each call on a file system, whatever its arguments, as one function of plain data. -/
/- Files as plain texts: how many blocks are left behind each call, what a file's text is then. -/
import Derived.Test.YtcjpahnlckfgoaaGreatDoorApBC
import Derived.Test.YtcjpahnlckfgoaaGreatDoorApBC
import Derived.Test.YtcjpahnlckfgoaaGreatDoorApBC
import Derived.Test.YtcjpahnlckfgoaaGreatDoorApAF
import Derived.OwnWalk
import Derived.Laws.StructEq
namespace Go.Proofs.YtcjpahnlckfgoaaGreatDoor
open Go.RowKit
set_option linter.unusedVariables false

theorem ptr_eq (b : Nat) (W : World) : (binOp .eql 23 (ptr b) (.pointer none)).run Tryz.prog W = .ok (.bool false) W := by go_simp
section
variable {w w' : World} {m : Nat} {B : Sto} {F : FS}
theorem Fs.keep (h : Fs w B F m) (hs : ∀ k, IsSt w k → w'.heap[k]? = w.heap[k]?) : Fs w' B F m := by
  obtain ⟨vs, h⟩ := h
  exact ⟨vs, h.disk.keep hs, h.hold, h.inv⟩
theorem get_fs (h : Fs w B F m) (hm : m ≤ 900000000000) (i : Nat) (hi : i < 32) :
    Calls Tryz.prog 29 #[sto B, .int .i64 (i : Int)] w fun e w' => e = .returned (.tuple #[.agg (irow (F.ino i).row), .int .i64 0]) ∧ Fs w' B F (m + 3000) ∧ BG B w w' := by
  obtain ⟨vs, h⟩ := h
  have hr := h.row hi
  have := get_in h.dk hm h.inv.n1 h.inv.n2 i hi (by rw [hr]; exact h.inv.fit hi)
  rw [hr] at this
  refine this.mono ?_
  rintro e w' ⟨he, hd, hb⟩
  exact ⟨he, ⟨vs, hd, h.hold, h.inv⟩, hb⟩
end
end Go.Proofs.YtcjpahnlckfgoaaGreatDoor

namespace Go.Proofs.YtcjpahnlckfgoaaGreatDoor
open Go.RowKit
set_option linter.unusedVariables false

section
variable {w w' : World} {m : Nat} {B : Sto} {F : FS}
set_option maxHeartbeats 1000000 in
theorem free_arg {B : Sto} (hS : SOk B) (i : Int) (hi : isI i = false) (w : World) :
    Calls Tryz.prog 136 #[sto B, .int .i64 i] w fun e w' => e = .returned (.int .i64 101) ∧ w' = w := by
  have hI := isInode_at i w
  have hni := sto_nil hS
  rw [hi] at hI
  clear hi
  go_enter Tryz.func136, Tryz.ntmps136
  go_wp2_with fail
  refine hI.mono ?_
  rintro e w1 ⟨rfl, hw⟩
  rw [hw]
  clear hw w1 hI
  go_wp2
  go_ret
  exact ⟨rfl, rfl⟩
theorem list6 {l : List Nat} (h : l.length = 6) : ∃ a b c d e f, l = [a, b, c, d, e, f] := by
  match l, h with
  | [a, b, c, d, e, f], _ => exact ⟨a, b, c, d, e, f, rfl⟩
theorem six_zero : six (fun _ => 0) = [0, 0, 0, 0, 0, 0] := rfl
/-- A file's inode is laid as none. -/
theorem FlAt.clear {X : FX} {vs ws : List Int} {iw bw : List Nat} {kd lk sz : Int} {bl : List Nat} (h : FlAt w X vs ws m iw bw kd lk sz bl) : FlAt (w.setCells X.bf 4 zi.toList) X vs ws m iw bw 0 0 0 [0, 0, 0, 0, 0, 0] ∧ Fr X w (w.setCells X.bf 4 zi.toList) := by
  obtain ⟨h1, h2⟩ := setCells_heap X.bf zi.toList 4 w _ _ h.head
  have hb := h.bl6
  have e : setL (fRow X kd lk sz bl) 4 zi.toList = fRow X 0 0 0 [0, 0, 0, 0, 0, 0] := by
    obtain ⟨a, b, c, d, e, f, hbl⟩ := list6 hb
    rw [hbl]
    clear hbl hb h1 h2 h
    have e1 : ∀ (k l s : Int) (a b c d e f : Nat), fRow X k l s [a, b, c, d, e, f] = #[ptr X.bd, ptr X.hi, ptr X.hb, .int .i64 (X.i : Int), .int .i64 k, .int .i64 l, .int .i64 s, .int .i64 (a : Int), .int .i64 (b : Int), .int .i64 (c : Int), .int .i64 (d : Int), .int .i64 (e : Int), .int .i64 (f : Int)] := fun _ _ _ _ _ _ _ _ _ => rfl
    have e2 : zi.toList = [.int .i64 0, .int .i64 0, .int .i64 0, .int .i64 0, .int .i64 0, .int .i64 0, .int .i64 0, .int .i64 0, .int .i64 0] := rfl
    rw [e1, e1, e2]
    simp only [setL, List.setIfInBounds_toArray, List.set_cons_zero, List.set_cons_succ, Nat.reduceAdd]
    rfl
  rw [e] at h1
  refine ⟨⟨h1, h.dr.other h2 h.lo h.notD, h.bm.other h2 (fun cs => ?_), rfl, h.lo⟩, h2.fr h.lo⟩
  rw [h.head]
  constructor <;> (intro e; simp only [Option.some.injEq, Obj.cells.injEq] at e; exact absurd e.2.1 (by decide))
theorem FlAt.there {X : FX} {vs ws : List Int} {iw bw : List Nat} {kd lk sz : Int} {bl : List Nat} (h : FlAt w X vs ws m iw bw kd lk sz bl) : w.there X.bf 4 9 := fun j hj => by
  refine ⟨?_, h.free _⟩
  have hr := h.range
  have hl : ((rowOf kd lk sz bl).map (Value.int .i64)).length = 9 := by rw [List.length_map, rowOf_len h.bl6]
  rw [hr j _ (List.getElem?_eq_getElem (by omega))]
  rfl
set_option maxHeartbeats 4000000 in
set_option maxRecDepth 100000 in
theorem free_yes (h : Fs w B F m) (hm : m ≤ 900000000000) (i : Nat) (hi : i < 32) (hi0 : i ≠ 0) (hu : Bi.bt F.iw i = true) :
    Calls Tryz.prog 136 #[sto B, .int .i64 (i : Int)] w fun e w' => e = .returned (.int .i64 0) ∧ Fs w' B (freeF F i) (m + 3000) ∧ BG B w w' := by
  obtain ⟨vs, h⟩ := h
  have HI : Hid (Holds vs F ∧ FInv F) := ⟨h.hold, h.inv⟩
  have hI := isInode_at (i : Int) w
  rw [isI_nat hi] at hI
  have hni := sto_nil h.ok
  have hO := open_at h hm i hi
  have HU : Hid (Bi.bt F.iw i = true) := hu
  have HL6 : Hid ((F.ino i).blk.length ≤ 6) := h.inv.six hi
  clear h hu
  go_enter Tryz.func136, Tryz.ntmps136
  go_wp2_with fail
  refine hI.mono ?_
  rintro e w1 ⟨rfl, hw⟩
  rw [hw]
  clear hw w1 hI
  go_wp2_with fail
  refine hO.mono ?_
  rintro e w1 ⟨bf, rfl, hop⟩
  obtain ⟨X, hbf, hbase, hXB, hopf, hfr⟩ := hop.op hi HI.out.1 HI.out.2
  subst hbf
  have HX : Hid (X.base = w.heap.size ∧ X.B = B) := ⟨hbase, hXB⟩
  have HFr : Hid (Fr X w w1) := hfr
  have HOp : Hid (OpF w1 X F vs m i) := hopf
  have HXn : Hid (X.n = F.n) := hopf.n
  clear hO hop hbase hXB hopf hfr
  go_wp2
  go_loopw [24] (fun z wr => ∃ (k : Nat) (us : List Int) (bl bw' Z : List Nat), k ≤ 6 ∧ z = .int .i64 k ∧ FlAt wr X vs us m F.iw bw' (F.ino i).kind (F.ino i).links ((F.ino i).txt.length : Int) bl ∧ Fr X w wr ∧ Hid (RS F.n (F.ino i).blk F.bw 0 k bl bw' Z ∧ ZW F.n vs Z us)) (fun z _ => 6 - (intOf z).toNat)
  case atStart => exact ⟨0, vs, _, _, [], by omega, rfl, HOp.out.fl, HFr.out, RS.start _ _ _ _, ZW.refl _ _⟩
  case round =>
    obtain ⟨k, us, bl, bw', Z, hk, rfl, hF, hfr, HR⟩ := hrel
    have HF : Hid (FlAt wr X vs us m F.iw bw' (F.ino i).kind (F.ino i).links ((F.ino i).txt.length : Int) bl) := hF
    have HFr' : Hid (Fr X w wr) := hfr
    have hvl : vs.length = F.n * 32 := HI.out.1.len
    by_cases hlt6 : k < 6
    · have hki : decide ((k : Int) < 6) = true := by simp; omega
      have hk6 : (k : Int) < 6 := by omega
      by_cases hkl : k < (F.ino i).blk.length
      · obtain ⟨r1, r2⟩ := HR.out.1.drop (by omega) hkl HL6.out
        have hdat := HI.out.2.data i hi _ (List.getElem_mem hkl)
        have hgk : (F.ino i).blk.getD k 0 = (F.ino i).blk[k] := by rw [List.getD_eq_getElem?_getD, List.getElem?_eq_getElem hkl]; rfl
        rw [← hgk] at hdat
        have hD := fdrop_yes hF hm k _ hlt6 r1 (isDat_yes hdat.1 (by rw [HXn.out]; exact hdat.2.1))
        have HZ2 : Hid (ZW F.n vs (Z ++ [(F.ino i).blk.getD k 0]) (splice us ((F.ino i).blk.getD k 0 * 32) (List.replicate 32 0))) := HR.out.2.snoc hvl hdat.2.1
        have HR2 : Hid _ := r2
        clear hF hfr r1 r2 hdat hgk hkl hvl
        go_wp2_with fail
        refine hD.mono ?_
        rintro e w3 ⟨rfl, h3, f3⟩
        have H3 : Hid _ := h3
        have HF3 : Hid (Fr X w w3) := HFr'.out.trans f3
        clear hD h3 f3
        go_wp2
        go_roundw
        case rel => exact ⟨k + 1, _, _, _, _, by omega, by go_num, H3.out, HF3.out, HR2.out, HZ2.out⟩
        case measure => simp [intOf]; omega
      · obtain ⟨r1, r2⟩ := HR.out.1.none (by omega) (by omega) hlt6 (by rw [Nat.zero_sub]; rfl)
        have hD := fdrop_no hF k hlt6 (by rw [r1]; exact isDat_zero _)
        have HR2 : Hid _ := r2
        clear hF hfr r1 r2 hkl hvl
        go_wp2_with fail
        refine hD.mono ?_
        rintro e w3 ⟨rfl, h3, f3⟩
        have H3 : Hid _ := h3
        have HF3 : Hid (Fr X w w3) := HFr'.out.trans f3
        clear hD h3 f3
        go_wp2
        go_roundw
        case rel => exact ⟨k + 1, _, _, _, _, by omega, by go_num, H3.out, HF3.out, HR2.out, HR.out.2⟩
        case measure => simp [intOf]; omega
    · have hki : decide ((k : Int) < 6) = false := by simp; omega
      have hk6 : ¬ (k : Int) < 6 := by omega
      have hk0 : k = 6 := by omega
      have hRS := HR.out.1
      rw [hk0] at hRS
      obtain ⟨r1, r2, r3⟩ := hRS.done (by omega) HL6.out
      have hbw : bw' = newBw F i 0 := r2
      have HZs : Hid (∀ b, b ∈ Z ↔ b ∈ (F.ino i).blk) := fun b => by
        rw [r3 b, Nat.zero_sub]
        simp [grow]
      subst hbw
      obtain ⟨h4, f4⟩ := hF.clear
      obtain ⟨W4, hW4⟩ : ∃ W, W = wr.setCells X.bf 4 zi.toList := ⟨_, rfl⟩
      have HW4 : Hid _ := hW4
      rw [← hW4] at h4 f4
      have HTh : Hid (wr.there X.bf 4 9) := hF.there
      obtain ⟨c0, c1, c2, c3, c4, c5, c6⟩ := h4.c
      have hM := Bi.mark_yes X.hi X.gi 32 F.iw i false W4 h4.bm.bi hi
      have H4 : Hid (FlAt W4 X vs us m F.iw (newBw F i 0) 0 0 0 [0, 0, 0, 0, 0, 0]) := h4
      have HF4 : Hid (Fr X w W4) := HFr'.out.trans f4
      have hz := lit_zi
      clear hF hfr hk0 hRS r1 r3 h4 f4 hW4 c0 c2 c3 c4 c5 c6 hvl
      go_wp2_with (first
        | (refine wpList_store_mid rfl 63 _ _ rfl X.bf 4 zi rfl rfl HTh.out (by kernel_rfl) (irow_one _) ?_; rw [← HW4.out])
        | fail)
      refine hM.mono ?_
      rintro e w5 ⟨rfl, hB5, hu5⟩
      obtain ⟨h5, f5⟩ := H4.out.setiw hB5 hu5
      have HF5 : Hid (Fr X w w5) := HF4.out.trans f5
      have hC := fclose_at h5 hm (by have := HX.out; have := HF5.out.size; omega) (by rw [HXn.out]; exact HI.out.2.n1) (by rw [HOp.out.xi]; exact hi) (by
        intro x hx
        simp [rowOf] at hx
        rw [hx]
        exact ⟨by omega, by omega⟩)
      clear hM hB5 hu5 h5 f5 c1 hz
      go_wp2_with fail
      refine hC.mono ?_
      rintro e w6 ⟨rfl, hd6, hu6⟩
      have HE : Hid (Fs w6 B (freeF F i) (m + 3000) ∧ BG B w w6) := by
        obtain ⟨hH, hFi⟩ := HI.out
        have hfree := hFi.free hi hi0 HU.out
        refine closed_fs HX.out hd6 HXn.out ?_ hfree hu6 HF5.out (by omega)
        rw [HXn.out, HOp.out.xi, put2_free]
        have hZ := HR.out.2
        refine holds_close hH hFi hi (x := Ino.no) (by simp [Ino.no]) hfree.iw.len (by have := hfree.bw.len; have h2 := hFi.n2; have e1 : (freeF F i).bw = newBw F i 0 := rfl; have e2 : (freeF F i).n = F.n := rfl; rw [e1, e2] at this; omega) hZ.len (fun b hb => ?_) (fun k b hb => by simp [Ino.no] at hb) (fun m' hm' hne b hb => ?_)
        · have hn := hFi.n1
          rw [hZ.fr b (by omega), if_neg (fun hm => by have := (hFi.data i hi b ((HZs.out b).1 hm)).1; omega)]
        · have hdat := hFi.data m' hm' b hb
          rw [hZ.fr b hdat.2.1, if_neg (fun hm => hne (hFi.one m' i hm' hi b hb ((HZs.out b).1 hm)))]
      clear hC hd6 hu6
      go_wp2
      go_ret
      exact ⟨rfl, HE.out.1, HE.out.2⟩
end
end Go.Proofs.YtcjpahnlckfgoaaGreatDoor

namespace Go.Proofs.YtcjpahnlckfgoaaGreatDoor
open Go.RowKit
set_option linter.unusedVariables false

/-- What Resize answers, and leaves. -/
def rsR (F : FS) (i : Nat) (s : Int) : Int := if s < 0 then 101 else if 192 < s then 27 else if roomB F i s.toNat = true then 0 else 28
def rsF (F : FS) (i : Nat) (s : Int) : FS := if s < 0 then F else if 192 < s then F else if roomB F i s.toNat = true then resizeF F i s.toNat else F
/-- What Write does. -/
def wrR (F : FS) (i : Nat) (o : Int) (l : List UInt8) : Int := if o < 0 then 101 else if 192 < o + l.length then 27 else if l = [] then 0 else if roomB F i (max (F.ino i).txt.length (o.toNat + l.length)) = true then 0 else 28
def wrF (F : FS) (i : Nat) (o : Int) (l : List UInt8) : FS := if o < 0 then F else if 192 < o + l.length then F else if l = [] then F else if roomB F i (max (F.ino i).txt.length (o.toNat + l.length)) = true then writeF F i o.toNat (nums l) else F
/-- What Read does. -/
def rdR (i o n : Int) : Int := if isI i = true ∧ 0 ≤ o ∧ 0 ≤ n then 0 else 101
def rdT (F : FS) (i o n : Int) : List UInt8 := if isI i = true ∧ 0 ≤ o ∧ 0 ≤ n then readT F i.toNat o.toNat n.toNat else []
/-- What Get does. -/
def gtR (i : Int) : Int := if isI i = true then 0 else 101
def gtX (F : FS) (i : Int) : List Int := if isI i = true then (F.ino i.toNat).row else List.replicate 9 0
/-- What Alloc does. -/
def alN (F : FS) : Nat := lowN (Bi.bt F.iw) 32
def alR (F : FS) : Int := if alN F < 32 then 0 else 28
def alI (F : FS) : Int := if alN F < 32 then (alN F : Int) else 0
def alF (F : FS) (kind : Int) : FS := if alN F < 32 then allocF F (alN F) kind else F
section
variable {w w' : World} {m : Nat} {B : Sto} {F : FS}
theorem BG.of_same (w : World) : BG B w w := SU.refl _ _ _
theorem resize_all (h : Fs w B F m) (hm : m ≤ 900000000000) (i : Nat) (hi : i < 32) (hu : Bi.bt F.iw i = true) (s : Int) :
    Calls Tryz.prog 155 #[sto B, .int .i64 (i : Int), .int .i64 s] w fun e w' => e = .returned (.int .i64 (rsR F i s)) ∧ Fs w' B (rsF F i s) (m + 3000) ∧ BG B w w' := by
  unfold rsR rsF
  by_cases h0 : s < 0
  · rw [if_pos h0, if_pos h0]
    refine (resize_arg h.ok i s (Or.inr h0) w).mono ?_
    rintro e w' ⟨he, rfl⟩
    exact ⟨he, h.mono (by omega), SU.refl _ _ _⟩
  · rw [if_neg h0, if_neg h0]
    by_cases h1 : 192 < s
    · rw [if_pos h1, if_pos h1]
      refine (resize_big h.ok i hi s h1 w).mono ?_
      rintro e w' ⟨he, rfl⟩
      exact ⟨he, h.mono (by omega), SU.refl _ _ _⟩
    · rw [if_neg h1, if_neg h1]
      obtain ⟨k, rfl⟩ := nat_of s (by omega)
      rw [Int.toNat_natCast]
      cases hr : roomB F i k with
      | true => exact resize_yes h hm i k hi hu (by omega) hr
      | false => exact resize_no h hm i k hi (by omega) hr
theorem write_all (h : Fs w B F m) (hm : m ≤ 900000000000) (i : Nat) (hi : i < 32) (hu : Bi.bt F.iw i = true) (o : Int) (l : List UInt8) (hl : l.length ≤ 9223372036854775807) :
    Calls Tryz.prog 23 #[sto B, .int .i64 (i : Int), .int .i64 o, tx l] w fun e w' => e = .returned (.int .i64 (wrR F i o l)) ∧ Fs w' B (wrF F i o l) (m + 3000) ∧ BG B w w' := by
  unfold wrR wrF
  by_cases h0 : o < 0
  · rw [if_pos h0, if_pos h0]
    refine (write_arg h.ok i o l (Or.inr h0) w).mono ?_
    rintro e w' ⟨he, rfl⟩
    exact ⟨he, h.mono (by omega), SU.refl _ _ _⟩
  · rw [if_neg h0, if_neg h0]
    obtain ⟨k, rfl⟩ := nat_of o (by omega)
    rw [Int.toNat_natCast]
    by_cases h1 : 192 < (k : Int) + l.length
    · rw [if_pos h1, if_pos h1]
      refine (write_big h.ok i hi k l hl h1 w).mono ?_
      rintro e w' ⟨he, rfl⟩
      exact ⟨he, h.mono (by omega), SU.refl _ _ _⟩
    · rw [if_neg h1, if_neg h1]
      by_cases h2 : l = []
      · rw [if_pos h2, if_pos h2]
        subst h2
        refine (write_none h.ok i hi k (by simp at h1; omega) w).mono ?_
        rintro e w' ⟨he, rfl⟩
        exact ⟨he, h.mono (by omega), SU.refl _ _ _⟩
      · rw [if_neg h2, if_neg h2]
        cases hr : roomB F i (max (F.ino i).txt.length (k + l.length)) with
        | true => exact write_yes h hm i k l hi hu h2 (by omega) hr
        | false => exact write_no h hm i k l hi h2 (by omega) hr
theorem read_all (h : Fs w B F m) (hm : m ≤ 890000000000) (i o n : Int) (ho : o < 9223372036854775808) (hn : n < 9223372036854775808) :
    Calls Tryz.prog 26 #[sto B, .int .i64 i, .int .i64 o, .int .i64 n] w fun e w' => e = .returned (.tuple #[tx (rdT F i o n), .int .i64 (rdR i o n)]) ∧ Fs w' B F (m + 3000) ∧ BG B w w' := by
  unfold rdT rdR
  by_cases hg : isI i = true ∧ 0 ≤ o ∧ 0 ≤ n
  · rw [if_pos hg, if_pos hg]
    obtain ⟨i, rfl, hi⟩ := isI_of hg.1
    obtain ⟨o, rfl⟩ := nat_of o hg.2.1
    obtain ⟨n, rfl⟩ := nat_of n hg.2.2
    simp only [Int.toNat_natCast]
    exact read_in h hm i o n hi (by omega) (by omega)
  · rw [if_neg hg, if_neg hg]
    refine (read_arg h.ok i o n ?_ w).mono ?_
    · cases hi : isI i with
      | false => exact Or.inl rfl
      | true => exact Or.inr (by by_cases q : o < 0; exact Or.inl q; exact Or.inr (by rcases Int.lt_or_le n 0 with q2 | q2; exact q2; exact absurd ⟨hi, by omega, q2⟩ hg))
    · rintro e w' ⟨he, rfl⟩
      exact ⟨he, h.mono (by omega), SU.refl _ _ _⟩
theorem get_all (h : Fs w B F m) (hm : m ≤ 900000000000) (i : Int) :
    Calls Tryz.prog 29 #[sto B, .int .i64 i] w fun e w' => e = .returned (.tuple #[.agg (irow (gtX F i)), .int .i64 (gtR i)]) ∧ Fs w' B F (m + 3000) ∧ BG B w w' := by
  unfold gtX gtR
  cases hi : isI i with
  | true =>
    obtain ⟨i, rfl, hi2⟩ := isI_of hi
    exact get_fs h hm i hi2
  | false =>
    refine (get_out h.ok i hi w).mono ?_
    rintro e w' ⟨he, hb⟩
    exact ⟨he, (h.below hb).mono (by omega), SU.of_below hb⟩
theorem gtX_len (hF : FInv F) (i : Int) : (gtX F i).length = 9 := by
  unfold gtX
  cases hi : isI i with
  | true =>
    obtain ⟨i, rfl, hi2⟩ := isI_of hi
    exact Ino.row_len (hF.six (by simpa using hi2))
  | false => rfl
theorem alloc_all (h : Fs w B F m) (hm : m ≤ 900000000000) (kind : Int) (hk : Fit kind) :
    Calls Tryz.prog 165 #[sto B, .int .i64 kind] w fun e w' => e = .returned (.tuple #[.int .i64 (alI F), .int .i64 (alR F)]) ∧ Fs w' B (alF F kind) (m + 3000) ∧ BG B w w' := by
  unfold alI alR alF
  by_cases hr : alN F < 32
  · rw [if_pos hr, if_pos hr, if_pos hr]
    obtain ⟨h1, h2⟩ := lowN_hit hr
    exact alloc_yes h hm kind hk (alN F) hr (Or.inl ⟨_, rfl, hr, h2, h1⟩) h1
  · rw [if_neg hr, if_neg hr, if_neg hr]
    exact alloc_no h hm kind (lowN_none (by have := lowN_le (Bi.bt F.iw) 32; unfold alN at hr; omega))
theorem rsR_arg (F : FS) (i : Nat) (s : Int) : (rsR F i s == 101) = decide (s < 0) := by
  unfold rsR
  by_cases h : s < 0
  · simp [h]
  · rw [if_neg h, decide_eq_false h]
    split
    · rfl
    · split <;> rfl
theorem rsR_big (F : FS) (i : Nat) (s : Int) : (rsR F i s == 27) = decide (192 < s) := by
  unfold rsR
  by_cases h : s < 0
  · rw [if_pos h, decide_eq_false (by omega)]
    rfl
  · rw [if_neg h]
    by_cases h1 : 192 < s
    · rw [if_pos h1, decide_eq_true h1]
      rfl
    · rw [if_neg h1, decide_eq_false h1]
      split <;> rfl
theorem wrR_arg (F : FS) (i : Nat) (o : Int) (l : List UInt8) : (wrR F i o l == 101) = decide (o < 0) := by
  unfold wrR
  by_cases h : o < 0
  · simp [h]
  · rw [if_neg h, decide_eq_false h]
    split
    · rfl
    · split
      · rfl
      · split <;> rfl
theorem wrR_big (F : FS) (i : Nat) (o : Int) (l : List UInt8) : (wrR F i o l == 27) = (decide (0 ≤ o) && decide (192 < o + l.length)) := by
  unfold wrR
  by_cases h : o < 0
  · rw [if_pos h, decide_eq_false (show ¬ 0 ≤ o by omega)]
    rfl
  · rw [if_neg h, decide_eq_true (show 0 ≤ o by omega), Bool.true_and]
    by_cases h1 : 192 < o + l.length
    · rw [if_pos h1, decide_eq_true h1]
      rfl
    · rw [if_neg h1, decide_eq_false h1]
      split
      · rfl
      · split <;> rfl
/-- Whoever is in use stays so. -/
theorem wrF_iw (F : FS) (i : Nat) (o : Int) (l : List UInt8) : (wrF F i o l).iw = F.iw ∧ (wrF F i o l).n = F.n := by
  unfold wrF
  split
  · exact ⟨rfl, rfl⟩
  · split
    · exact ⟨rfl, rfl⟩
    · split
      · exact ⟨rfl, rfl⟩
      · split <;> exact ⟨rfl, rfl⟩
theorem rsF_iw (F : FS) (i : Nat) (s : Int) : (rsF F i s).iw = F.iw ∧ (rsF F i s).n = F.n := by
  unfold rsF
  split
  · exact ⟨rfl, rfl⟩
  · split
    · exact ⟨rfl, rfl⟩
    · split <;> exact ⟨rfl, rfl⟩
end
/-- A deed. -/
structure Deed where
  kind : Int
  i : Int
  off : Int
  n : Int
  s : List UInt8
def I64 (n : Int) : Prop := -9223372036854775808 ≤ n ∧ n ≤ 9223372036854775807
structure Deed.Fit (d : Deed) : Prop where
  i : I64 d.i
  off : I64 d.off
  n : I64 d.n
  s : d.s.length ≤ 9223372036854775807
abbrev deedRow (d : Deed) : Array Value := #[.int .i64 d.kind, .int .i64 d.i, .int .i64 d.off, .int .i64 d.n, tx d.s]
theorem deedCells {w : World} {g : Nat} {d : Deed} {t : TypeId} (h : w.heap[g]? = some (.cells (deedRow d) t)) :
    w.cell? ⟨g, 0, none⟩ = some (.int .i64 d.kind) ∧ w.cell? ⟨g, 1, none⟩ = some (.int .i64 d.i) ∧ w.cell? ⟨g, 2, none⟩ = some (.int .i64 d.off) ∧ w.cell? ⟨g, 3, none⟩ = some (.int .i64 d.n) ∧ w.cell? ⟨g, 4, none⟩ = some (tx d.s) := by
  refine ⟨?_, ?_, ?_, ?_, ?_⟩ <;> (rw [cell_of_heap h]; rfl)
end Go.Proofs.YtcjpahnlckfgoaaGreatDoor

namespace Go.Proofs.YtcjpahnlckfgoaaGreatDoor
set_option linter.unusedVariables false

theorem cnt_back {n : Nat} : ∀ {l : List Nat} {bw : List Nat}, Bi.Wf n bw → (∀ b ∈ l, b < n ∧ Bi.bt bw b = true) → l.Nodup → Bi.cntF (Bi.bt (back bw l)) n = Bi.cntF (Bi.bt bw) n + l.length
  | [], bw, hw, hl, hn => rfl
  | b0 :: l, bw, hw, hl, hn => by
    obtain ⟨hb0, hu⟩ := hl b0 List.mem_cons_self
    obtain ⟨n1, n2⟩ := List.nodup_cons.1 hn
    have hbt := fun j => Bi.bt_mkW bw b0 j false (hw.at hb0)
    have ih := cnt_back (l := l) (hw.mark hb0 false) (fun b hb => ⟨(hl b (List.mem_cons_of_mem _ hb)).1, by
      rw [hbt, if_neg (fun e => n1 (by rw [← e]; exact hb))]
      exact (hl b (List.mem_cons_of_mem _ hb)).2⟩) n2
    have h1 := cntF_one (f := Bi.bt (Bi.mkW bw b0 false)) (g := Bi.bt bw) (b := b0) (by rw [hbt, if_pos rfl]) hu (fun j hj => by rw [hbt, if_neg hj]) n
    rw [if_pos hb0] at h1
    show Bi.cntF (Bi.bt (back (Bi.mkW bw b0 false) l)) n = _
    rw [ih, h1, List.length_cons]
    omega
/-- Blocks that are left behind a new size. -/
theorem cnt_resize {F : FS} (h : FInv F) {i s : Nat} (hi : i < 32) (hr : roomB F i s = true) : Bi.cntF (Bi.bt (resizeF F i s).bw) F.n + need s = Bi.cntF (Bi.bt F.bw) F.n + (F.ino i).blk.length := by
  have hr' : need s - (F.ino i).blk.length ≤ Bi.cntF (Bi.bt F.bw) F.n := of_decide_eq_true hr
  obtain ⟨g1, g2, g3, g4, g5, g6⟩ := grow_ok h.bw hr'
  have hnd := h.nd i hi
  rw [← List.take_append_drop (need s) (F.ino i).blk, List.nodup_append] at hnd
  have hc := cnt_back (l := (F.ino i).blk.drop (need s)) g2 (fun b hb => by
    obtain ⟨q1, q2, q3⟩ := h.data i hi b (List.mem_of_mem_drop hb)
    refine ⟨q2, ?_⟩
    rw [g5 b (fun hm => by rw [(g3 b hm).2.1] at q3; cases q3)]
    exact q3) hnd.2.1
  show Bi.cntF (Bi.bt (newBw F i s)) F.n + need s = _
  unfold newBw
  rw [hc, List.length_drop]
  omega
theorem cnt_write {F : FS} (h : FInv F) {i o : Nat} {d : List Int} (hi : i < 32) (hr : roomB F i (max (F.ino i).txt.length (o + d.length)) = true) : Bi.cntF (Bi.bt (writeF F i o d).bw) F.n + need (max (F.ino i).txt.length (o + d.length)) = Bi.cntF (Bi.bt F.bw) F.n + (F.ino i).blk.length := cnt_resize h hi hr
theorem cnt_free {F : FS} (h : FInv F) {i : Nat} (hi : i < 32) : Bi.cntF (Bi.bt (freeF F i).bw) F.n = Bi.cntF (Bi.bt F.bw) F.n + (F.ino i).blk.length := by
  have := cnt_resize h (s := 0) hi (by unfold roomB; simp [need])
  have e : need 0 = 0 := rfl
  rw [e, Nat.add_zero] at this
  exact this
theorem resize_txt (F : FS) (i s : Nat) : ((resizeF F i s).ino i).txt = sized (F.ino i).txt s := by
  unfold resizeF
  rw [FS.put_same]
theorem write_txt (F : FS) (i o : Nat) (d : List Int) : ((writeF F i o d).ino i).txt = patch (sized (F.ino i).txt (max (F.ino i).txt.length (o + d.length))) o d := by
  unfold writeF
  show ((FS.put _ _ _ _).ino i).txt = _
  rw [FS.put_same]
  show patch ((resizeF F i _).ino i).txt o d = _
  rw [resize_txt]
theorem patch_nil_all (d : List Int) : patch (sized [] d.length) 0 d = d := by
  unfold patch
  rw [List.take_zero, List.nil_append, Nat.zero_add, List.drop_of_length_le (by rw [sized_len]; exact Nat.le_refl _), List.append_nil]
theorem wr_nil (F : FS) (i : Nat) (o : Int) (h : 0 ≤ o) (h2 : o ≤ 192) : wrR F i o [] = 0 ∧ wrF F i o [] = F := by
  have a1 : ¬ o < 0 := by omega
  have a2 : ¬ 192 < o + (([] : List UInt8).length : Nat) := by simp; omega
  unfold wrR wrF
  rw [if_neg a1, if_neg a1, if_neg a2, if_neg a2, if_pos rfl, if_pos rfl]
  exact ⟨rfl, rfl⟩
theorem wr_yes (F : FS) (i o : Nat) (l : List UInt8) (h2 : o + l.length ≤ 192) (h3 : l ≠ []) (h4 : roomB F i (max (F.ino i).txt.length (o + l.length)) = true) : wrR F i (o : Int) l = 0 ∧ wrF F i (o : Int) l = writeF F i o (nums l) := by
  have a1 : ¬ (o : Int) < 0 := by omega
  have a2 : ¬ 192 < (o : Int) + (l.length : Nat) := by omega
  unfold wrR wrF
  rw [if_neg a1, if_neg a1, if_neg a2, if_neg a2, if_neg h3, if_neg h3, Int.toNat_natCast, if_pos h4, if_pos h4]
  exact ⟨rfl, rfl⟩
theorem rs_yes (F : FS) (i s : Nat) (h2 : s ≤ 192) (h4 : roomB F i s = true) : rsR F i (s : Int) = 0 ∧ rsF F i (s : Int) = resizeF F i s := by
  have a1 : ¬ (s : Int) < 0 := by omega
  have a2 : ¬ 192 < (s : Int) := by omega
  unfold rsR rsF
  rw [if_neg a1, if_neg a1, if_neg a2, if_neg a2, Int.toNat_natCast, if_pos h4, if_pos h4]
  exact ⟨rfl, rfl⟩
/-- A new file. -/
def C1 (n : Nat) : FS := alF (F0 n) 1
theorem alN0 (n : Nat) : alN (F0 n) = 1 := by show alN (F0 0) = 1; decide +kernel
theorem alR0 (n : Nat) : alR (F0 n) = 0 := by unfold alR; rw [alN0]; rfl
theorem alI0 (n : Nat) : alI (F0 n) = 1 := by unfold alI; rw [alN0]; rfl
theorem C1_eq (n : Nat) : C1 n = allocF (F0 n) 1 1 := by unfold C1 alF; rw [alN0]; rfl
theorem C1_us : Bi.bt (C1 40).iw 1 = true := by rw [C1_eq]; decide +kernel
theorem C1_cnt : Bi.cntF (Bi.bt (C1 40).bw) (C1 40).n = 28 := by rw [C1_eq]; decide +kernel
theorem C1_ino (n : Nat) : (C1 n).ino 1 = ⟨1, 0, [], []⟩ := by rw [C1_eq]; rfl
/-- What InodeShrinks reads in the end. -/
structure Shr (l : List UInt8) (to again : Nat) : Prop where
  a : wrR (C1 40) 1 0 l = 0
  b : rsR (wrF (C1 40) 1 0 l) 1 to = 0
  c : rsR (rsF (wrF (C1 40) 1 0 l) 1 to) 1 again = 0
  len : (rdT (rsF (rsF (wrF (C1 40) 1 0 l) 1 to) 1 again) 1 0 192).length = again
  low : ∀ k, k < to → (nums (rdT (rsF (rsF (wrF (C1 40) 1 0 l) 1 to) 1 again) 1 0 192)).getD k 0 = (nums l).getD k 0
  high : ∀ k, to ≤ k → k < again → (nums (rdT (rsF (rsF (wrF (C1 40) 1 0 l) 1 to) 1 again) 1 0 192)).getD k 0 = 0
theorem shr (hC : FInv (C1 40)) (l : List UInt8) (to again : Nat) (h1 : l.length ≤ 192) (h2 : to ≤ l.length) (h3 : to ≤ again) (h4 : again ≤ 192) : Shr l to again := by
  have n1 : need l.length ≤ 6 := need_le h1
  have n2 : need to ≤ need l.length := by unfold need; omega
  have n3 : need again ≤ 6 := need_le h4
  have hc := C1_cnt
  have hi : (C1 40).ino 1 = _ := C1_ino 40
  have hn : (C1 40).n = 40 := rfl
  -- written
  have hw : wrR (C1 40) 1 0 l = 0 ∧ FInv (wrF (C1 40) 1 0 l) ∧ ((wrF (C1 40) 1 0 l).ino 1).txt = nums l ∧ Bi.cntF (Bi.bt (wrF (C1 40) 1 0 l).bw) 40 + need l.length = 28 ∧ (wrF (C1 40) 1 0 l).n = 40 := by
    by_cases e : l = []
    · subst e
      obtain ⟨r1, r2⟩ := wr_nil (C1 40) 1 0 (by omega) (by omega)
      rw [r1, r2]
      refine ⟨rfl, hC, by rw [hi]; rfl, ?_, rfl⟩
      show Bi.cntF (Bi.bt (C1 40).bw) (C1 40).n + 0 = 28
      rw [hc]
    · have hl : (nums l).length = l.length := nums_len l
      have hroom : roomB (C1 40) 1 (max ((C1 40).ino 1).txt.length (0 + l.length)) = true := by
        unfold roomB
        rw [hc, hi]
        refine decide_eq_true ?_
        have e2 : max ([] : List Int).length (0 + l.length) = l.length := by simp
        rw [e2]
        omega
      have hroom2 : roomB (C1 40) 1 (max ((C1 40).ino 1).txt.length (0 + (nums l).length)) = true := by rw [hl]; exact hroom
      obtain ⟨r1, r2⟩ := wr_yes (C1 40) 1 0 l (by omega) e hroom
      have z0 : ((0 : Nat) : Int) = 0 := rfl
      rw [z0] at r1 r2
      rw [r1, r2]
      refine ⟨rfl, ?_, ?_, ?_, rfl⟩
      · exact hC.write (by omega) C1_us (by rw [nums_len]; omega) (nums_byte l) hroom2
      · rw [write_txt, hi]
        have : max ([] : List Int).length (0 + (nums l).length) = (nums l).length := by simp
        rw [this]
        exact patch_nil_all _
      · have := cnt_write hC (i := 1) (o := 0) (d := nums l) (by omega) hroom2
        have e2 : max ((C1 40).ino 1).txt.length (0 + (nums l).length) = l.length := by rw [hi, hl]; simp
        rw [e2, hc, hi, hn] at this
        exact this
  obtain ⟨a1, a2, a3, a4, a5⟩ := hw
  have hu2 : Bi.bt (wrF (C1 40) 1 0 l).iw 1 = true := by rw [(wrF_iw _ _ _ _).1]; exact C1_us
  generalize hF2 : wrF (C1 40) 1 0 l = F2 at *
  have hb2 : (F2.ino 1).blk.length = need l.length := by rw [a2.len 1 (by omega), a3, nums_len]
  have hr3 : roomB F2 1 to = true := by
    unfold roomB
    rw [hb2]
    exact decide_eq_true (by omega)
  have hb := rs_yes F2 1 to (by omega) hr3
  have i3 := a2.resize (i := 1) (s := to) (by omega) hu2 (by omega) hr3
  have c3 := cnt_resize a2 (i := 1) (s := to) (by omega) hr3
  rw [hb2, a5] at c3
  have t3 := resize_txt F2 1 to
  rw [a3] at t3
  have u3 : Bi.bt (resizeF F2 1 to).iw 1 = true := hu2
  have m3 : (resizeF F2 1 to).n = 40 := a5
  generalize hF3 : resizeF F2 1 to = F3 at *
  have hb3 : (F3.ino 1).blk.length = need to := by rw [i3.len 1 (by omega), t3, sized_len]
  have hr4 : roomB F3 1 again = true := by
    unfold roomB
    rw [hb3, m3]
    exact decide_eq_true (by omega)
  have hcc := rs_yes F3 1 again h4 hr4
  have t4 := resize_txt F3 1 again
  rw [t3] at t4
  have hrd : rdT (rsF (rsF F2 1 to) 1 again) 1 0 192 = byts (sized (sized (nums l) to) again) := by
    rw [hb.2, hcc.2]
    unfold rdT
    rw [if_pos ⟨rfl, by omega, by omega⟩]
    show cutB ((resizeF F3 1 again).ino 1).txt 0 192 = _
    rw [t4]
    unfold cutB
    rw [List.drop_zero, List.take_of_length_le (by rw [sized_len]; exact h4)]
  have hby : ∀ y ∈ sized (sized (nums l) to) again, 0 ≤ y ∧ y < 256 := sized_byte (sized_byte (nums_byte l) to) again
  have hgb : nums (byts (sized (sized (nums l) to) again)) = sized (sized (nums l) to) again := nums_byts hby
  refine ⟨a1, by rw [hF2]; exact hb.1, by rw [hF2, hb.2]; exact hcc.1, ?_, ?_, ?_⟩
  all_goals rw [hF2, hrd]
  · rw [byts_len, sized_len]
  · intro k hk
    rw [hgb, sized_get, if_pos (by rw [sized_len]; omega), sized_get, if_pos (by rw [nums_len]; omega)]
  · intro k hk1 hk2
    rw [hgb, sized_get, if_neg (by rw [sized_len]; omega)]
end Go.Proofs.YtcjpahnlckfgoaaGreatDoor
