/- Package dir, over a file system: Remove, walk, Walk, Parent. -/
import Derived.Test.YtcjpahnlckfgoaaGreatDoorDtFG
import Derived.BigQuiet
namespace Go.Proofs.YtcjpahnlckfgoaaGreatDoor
open Go.RowKit Go.Lib
set_option linter.unusedVariables false

theorem elemE : Tryz.prog.elem 215 = 219 := by kernel_rfl
theorem elemT : Tryz.prog.elem 153 = 9 := by kernel_rfl
section
variable {w w' : World} {base : Nat} {l : List Ent}
set_option maxRecDepth 100000 in
/-- The entries from one on. -/
theorem Et.cut {a : Option Addr} {cap : Nat} (h : Et w base (.slice a l.length cap) l) (j : Nat) (hj : j ≤ l.length) : ∃ a2 c2, (∀ V, (Instr.slice 215 (.slice a l.length cap) (some (.int .i64 (j : Int))) none none).run Tryz.prog V = .ok (.slice a2 (l.length - j) c2) V) ∧ Et w base (.slice a2 (l.length - j) c2) (l.drop j) := by
  obtain ⟨i0, hi0, hzz⟩ := Option.map_eq_some_iff.1 entInfo
  simp only [Prod.mk.injEq] at hzz
  refine ⟨if cap = j then a else a.map (·.add (j * 2)), cap - j, fun V => ?_, ?_⟩
  · have hk0 : (j : Int) ≤ (l.length : Int) := by omega
    rw [run_slice_l V 215 _ _ _ Tryz.underlying215 _ _ (by omega) hk0]
    simp [sizeOf, typeInfo, elemE, hi0, sliced, hzz.2.1]
  · obtain ⟨a', cap', h1, h2, h3⟩ := h
    cases h1
    refine ⟨_, _, by rw [List.length_drop], by rw [List.length_drop]; omega, fun hne => ?_⟩
    have hlt : j < l.length := by
      rcases Nat.lt_or_ge j l.length with q | q
      · exact q
      · exact absurd (List.drop_of_length_le q) hne
    obtain ⟨g, o, cur, fz, rfl, e2, e3, e4⟩ := h3 (fun z => by rw [z] at hlt; simp at hlt)
    refine ⟨g, o + j * 2, cur, fz, ?_, e2, e3, fun i e he => ?_⟩
    · rw [if_neg (by omega)]
      simp [Addr.add]
    · rw [List.getElem?_drop] at he
      have := e4 (j + i) e he
      rw [show o + j * 2 + 2 * i = o + 2 * (j + i) by omega]
      exact this
end
section
variable {w w' : World} {m : Nat} {B : Sto} {F : FS}
set_option maxHeartbeats 4000000 in
set_option maxRecDepth 100000 in
theorem Remove_at (h : Fs w B F m) (hA : AllD F) (hm : m ≤ 800000000000) (i : Int) (s : List UInt8) :
    Calls Tryz.prog 173 #[sto B, .int .i64 i, tx s] w fun e w' => e = .returned (.int .i64 (rmR F i s)) ∧ Fs w' B (rmF F i s) (m + 12000) ∧ BG B w w' := by
  have hE := entries_at h hA hm i
  have hL := dir_len hA i
  have HI : Hid (FInv F) := h.inv
  clear h
  cases hd : isD F i with
  | false =>
    have HR : Hid (rmR F i s = 20 ∧ rmF F i s = F) := by
      have e1 : rmR F i s = 20 := by unfold rmR; rw [hd]; rfl
      exact ⟨e1, by unfold rmF; rw [e1]; rfl⟩
    have he : enR F i = 20 := by unfold enR; rw [hd]; rfl
    rw [he] at hE
    clear he hd hL
    go_enter Tryz.func173, Tryz.ntmps173
    go_wp2_with fail
    refine hE.mono ?_
    rintro e w1 ⟨v, rfl, hEt, hf, hbg⟩
    have HQ : Hid (Fs w1 B F (m + 12000) ∧ BG B w w1) := ⟨hf.mono (by omega), hbg⟩
    obtain ⟨a, cap, rfl, -⟩ := hEt.form
    clear hE hEt hf hbg
    go_wp2
    go_ret
    exact ⟨by rw [HR.out.1]; rfl, by rw [HR.out.2]; exact HQ.out.1, HQ.out.2⟩
  | true =>
    have he : enR F i = 0 := by unfold enR; rw [hd]; rfl
    rw [he] at hE
    obtain ⟨q, rfl, hq, hqk⟩ := isD_nat hd
    obtain ⟨l, hl⟩ := hA q hq hqk
    have HDl : Hid (DirAt F q l) := hl
    have hu := dir_used HI.out hq hqk
    rw [hl.list hq] at hE hL
    have HRm : Hid (rmR F (q : Int) s = (if placeE l s < l.length then 0 else 2)) := by
      show _ = _
      unfold rmR
      rw [hd, if_neg (by simp), hl.list hq]
    have HD : Hid (isD F (q : Int) = true) := hd
    clear he hd hqk hl
    go_enter Tryz.func173, Tryz.ntmps173
    go_wp2_with fail
    refine hE.mono ?_
    rintro e w1 ⟨v, rfl, hEt, hf, hbg⟩
    obtain ⟨a, cap, rfl, -⟩ := hEt.form
    have HEt : Hid (Et w1 w.heap.size (.slice a l.length cap) l) := hEt
    have HQ : Hid (Fs w1 B F (m + 6000) ∧ BG B w w1) := ⟨hf, hbg⟩
    have hP := place_at hEt (by omega) s
    clear hE hEt hf hbg
    rcases pl_cases l s with ⟨k, e, q1, q2, q3, q4, q5⟩ | ⟨q1, q2, q3⟩
    · rw [q1] at hP
      have HR : Hid (rmR F (q : Int) s = 0 ∧ rmF F (q : Int) s = layT F q (nums (encsE (l.take k ++ l.drop (k + 1))))) := by
        have e1 : rmR F (q : Int) s = 0 := by rw [HRm.out, if_pos (by omega)]
        refine ⟨e1, ?_⟩
        unfold rmF
        rw [if_pos e1, Int.toNat_natCast]
        congr 2
        unfold rmT
        rw [HDl.out.list hq, Int.toNat_natCast, HDl.out.byts, q3, encsE_gone HDl.out.ok k q2]
      obtain ⟨r1, r2, r3⟩ := rm_code HI.out hq HDl.out q2
      clear q1 q3 q4 q5 HRm
      go_wp2_with fail
      refine hP.mono ?_
      rintro x w2 ⟨rfl, hb2⟩
      have HQ2 : Hid (Fs w2 B F (m + 6000) ∧ BG B w w2) := ⟨HQ.out.1.below hb2, HQ.out.2.trans (bg_of hb2)⟩
      obtain ⟨a2, c2, hcut, hEt2⟩ := (HEt.out.below hb2).cut (k + 1) (by omega)
      have hT := texts_at hEt2 (by rw [List.length_drop]; omega) (fun e he => ⟨(HDl.out.ok e (List.mem_of_mem_drop he)).max, by have := (HDl.out.ok e (List.mem_of_mem_drop he)).to; omega⟩)
      obtain ⟨D, hD⟩ : ∃ D, D = encsE (l.drop (k + 1)) := ⟨_, rfl⟩
      rw [← hD] at hT r1 r2 r3
      have HDl9 : Hid (D.length ≤ 1000) := by
        show _ ≤ _
        rw [hD, encsE_len (fun e he => HDl.out.ok e (List.mem_of_mem_drop he)), List.length_drop]
        omega
      obtain ⟨n2, hn2⟩ : ∃ n, n = l.length - (k + 1) := ⟨_, rfl⟩
      rw [← hn2] at hcut hT
      obtain ⟨N, hN⟩ : ∃ N : Nat, N = 9 * k := ⟨_, rfl⟩
      obtain ⟨M, hM⟩ : ∃ M : Nat, M = 9 * (l.length - 1) := ⟨_, rfl⟩
      rw [← hN, ← hM] at r2 r3
      rw [← hN] at r1
      have hw1 : IntKind.i64.wrap ((k : Int) * 9) = (N : Int) := by simp [IntKind.wrap, IntKind.bits, IntKind.signed]; omega
      have hw2 : IntKind.i64.wrap ((k : Int) + 1) = (k : Int) + 1 := by simp [IntKind.wrap, IntKind.bits, IntKind.signed]; omega
      have hw3 : IntKind.i64.wrap ((l.length : Int) - 1) = (l.length : Int) - 1 := by simp [IntKind.wrap, IntKind.bits, IntKind.signed]; omega
      have hw4 : IntKind.i64.wrap (((l.length : Int) - 1) * 9) = (M : Int) := by simp [IntKind.wrap, IntKind.bits, IntKind.signed]; omega
      have hcut' : ∀ V, (Instr.slice 215 (.slice a l.length cap) (some (.int .i64 ((k : Int) + 1))) none none).run Tryz.prog V = .ok (.slice a2 n2 c2) V := hcut
      have k0 : ¬ (k : Int) < 0 := by omega
      clear hP hb2 HQ HEt hcut hEt2 hD hn2 hN hM
      go_wp2_with fail
      refine hT.mono ?_
      rintro x w3 ⟨rfl, hb3⟩
      have HQ3 : Hid (Fs w3 B F (m + 6000) ∧ BG B w w3) := ⟨HQ2.out.1.below hb3, HQ2.out.2.trans (bg_of hb3)⟩
      have hW := write_all HQ3.out.1 (by omega) q hq hu (N : Int) D (by have := HDl9.out; omega)
      have hu1 : Bi.bt (wrF F q (N : Int) D).iw q = true := by rw [(wrF_iw F q (N : Int) D).1]; exact hu
      rw [r1] at hW
      generalize wrF F q (N : Int) D = F1 at *
      clear hT hb3 HQ2 r1
      go_wp2_with fail
      refine hW.mono ?_
      rintro x w4 ⟨rfl, hf4, hbg4⟩
      have HQ4 : Hid (BG B w w4) := HQ3.out.2.trans hbg4
      have hRs := resize_all hf4 (by omega) q hq hu1 (M : Int)
      rw [r2, r3] at hRs
      clear hW hf4 hbg4 HQ3 r2 r3 hu1
      go_wp2_with fail
      refine hRs.mono ?_
      rintro x w5 ⟨rfl, hf5, hbg5⟩
      have HQ5 : Hid (Fs w5 B (rmF F (q : Int) s) (m + 12000) ∧ BG B w w5) := ⟨by rw [HR.out.2]; exact hf5.mono (by omega), HQ4.out.trans hbg5⟩
      clear hRs hf5 hbg5 HQ4
      go_wp2
      go_ret
      exact ⟨by rw [HR.out.1]; rfl, HQ5.out⟩
    · rw [q1] at hP
      have HR : Hid (rmR F (q : Int) s = 2 ∧ rmF F (q : Int) s = F) := by
        have e1 : rmR F (q : Int) s = 2 := by rw [HRm.out, if_neg q3]
        exact ⟨e1, by unfold rmF; rw [e1]; rfl⟩
      clear q1 q2 q3
      go_wp2_with fail
      refine hP.mono ?_
      rintro x w2 ⟨rfl, hb2⟩
      have HQ2 : Hid (Fs w2 B F (m + 12000) ∧ BG B w w2) := ⟨(HQ.out.1.below hb2).mono (by omega), HQ.out.2.trans (bg_of hb2)⟩
      clear hP hb2 HQ HEt
      go_wp2
      go_ret
      exact ⟨by rw [HR.out.1]; rfl, by rw [HR.out.2]; exact HQ2.out.1, HQ2.out.2⟩
/-- One part further. -/
theorem wk_step (F : FS) (i : Int) (p : List UInt8) (l : List (List UInt8)) : (fiE F i p = 0 ∧ wkR F i (p :: l) = wkR F (fiA F i p) l) ∨ (((fiE F i p == 0) = false ∧ fiE F i p ≠ 0) ∧ wkR F i (p :: l) = (0, fiE F i p)) := by
  unfold fiE fiA
  show (_ ∧ (if isD F i = false then ((0 : Int), (20 : Int)) else if fdR F i p < 0 then (0, 2) else wkR F (fdR F i p) l) = _) ∨ (_ ∧ (if isD F i = false then ((0 : Int), (20 : Int)) else if fdR F i p < 0 then (0, 2) else wkR F (fdR F i p) l) = _)
  cases hd : isD F i with
  | false => exact Or.inr ⟨⟨rfl, by simp⟩, rfl⟩
  | true =>
    by_cases q : fdR F i p < 0
    · rw [if_pos q, if_pos q]
      exact Or.inr ⟨⟨rfl, by simp⟩, rfl⟩
    · exact Or.inl ⟨by simp [q], by simp [q]⟩
set_option maxHeartbeats 4000000 in
set_option maxRecDepth 100000 in
theorem walk_at {base : Nat} {v : Value} {ts : List (List UInt8)} (h : Fs w B F m) (hA : AllD F) (hm : m ≤ 700000000000) (hT : Ts w base v ts) (hts : ts.length ≤ 33) :
    Calls Tryz.prog 186 #[sto B, v] w fun e w' => e = .returned (.tuple #[.int .i64 (wkR F 0 ts).1, .int .i64 (wkR F 0 ts).2]) ∧ Fs w' B F (m + 210000) ∧ BG B w w' := by
  obtain ⟨a, cap, rfl, -⟩ := hT.form
  have HT : Hid (Ts w base (.slice a ts.length cap) ts) := hT
  have HF : Hid (Fs w B F (m + 6000 * 0) ∧ BG B w w) := ⟨h, SU.refl _ _ _⟩
  clear h hT
  go_enter Tryz.func186, Tryz.ntmps186
  go_wp2
  go_loopw [6, 13] (fun s6 s13 wr => ∃ (k : Nat) (i : Int), s6 = .int .i64 i ∧ s13 = .int .i64 k ∧ k ≤ ts.length ∧ Hid (wkR F 0 ts = wkR F i (ts.drop k)) ∧ Hid (Fs wr B F (m + 6000 * k) ∧ BG B w wr)) (fun _ s13 _ => ts.length - (RowKit.intOf s13).toNat)
  case atStart => exact ⟨0, 0, rfl, rfl, by omega, rfl, HF⟩
  case round =>
    obtain ⟨k, i, rfl, rfl, hk, HW, HS⟩ := hrel
    clear HF
    by_cases hlt : k < ts.length
    · obtain ⟨t, ht⟩ : ∃ t, ts[k]? = some t := ⟨ts[k], List.getElem?_eq_getElem hlt⟩
      obtain ⟨g, rfl, c0, _⟩ := (HT.out.st HS.out.2).at ht
      have hint : (k : Int) < (ts.length : Int) := by omega
      have hFi := find_at HS.out.1 hA (by omega) i t
      have hd : ts.drop k = t :: ts.drop (k + 1) := by
        rw [List.drop_eq_getElem_cons hlt]
        congr 1
        rw [List.getElem?_eq_getElem hlt] at ht
        exact Option.some.inj ht
      have hws := wk_step F i t (ts.drop (k + 1))
      rw [← hd, ← HW.out] at hws
      have hws' : Hid ((fiE F i t = 0 ∧ wkR F 0 ts = wkR F (fiA F i t) (ts.drop (k + 1))) ∨ (((fiE F i t == 0) = false ∧ fiE F i t ≠ 0) ∧ wkR F 0 ts = (0, fiE F i t))) := hws
      clear hws hd ht HW
      generalize fiE F i t = er at *
      generalize fiA F i t = ar at *
      go_wp2_with fail
      refine hFi.mono ?_
      rintro x w2 ⟨rfl, hf2, hbg2⟩
      have HS2 : Hid (Fs w2 B F (m + 6000 * (k + 1)) ∧ BG B w w2) := ⟨hf2.mono (by omega), HS.out.2.trans hbg2⟩
      clear hFi hf2 hbg2 HS
      rcases hws'.out with ⟨rfl, q⟩ | ⟨⟨q1, q2⟩, q⟩
      · have HW2 : Hid (wkR F 0 ts = wkR F ar (ts.drop (k + 1))) := q
        clear q hws'
        go_wp2
        go_roundw
        case rel => exact ⟨k + 1, ar, rfl, by go_num, by omega, HW2, HS2⟩
        case measure => simp [RowKit.intOf]; omega
      · have HW2 : Hid (wkR F 0 ts = (0, er)) := q
        clear q hws'
        go_wp2
        go_ret2
        exact ⟨by rw [HW2.out]; rfl, HS2.out.1.mono (by omega), HS2.out.2⟩
    · have hnl : ¬ (k : Int) < (ts.length : Int) := by omega
      have HW2 : Hid (wkR F 0 ts = (i, 0)) := by
        show _ = _
        rw [HW.out, List.drop_of_length_le (by omega)]
        rfl
      clear HW
      go_wp2
      go_ret2
      exact ⟨by rw [HW2.out]; rfl, HS.out.1.mono (by omega), HS.out.2⟩
theorem split_len (l : List UInt8) : (splitP l).length ≤ 33 := by
  unfold splitP
  by_cases h0 : l = []
  · rw [if_pos h0]; simp
  · rw [if_neg h0]
    by_cases h1 : 32 < l.length
    · rw [if_pos h1]; simp
    · rw [if_neg h1]
      split
      · have := parts_count [] l; omega
      · simp
set_option maxHeartbeats 2000000 in
set_option maxRecDepth 100000 in
theorem Walk_at (h : Fs w B F m) (hA : AllD F) (hm : m ≤ 700000000000) (p : List UInt8) (hp : p.length ≤ 9223372036854775807) :
    Calls Tryz.prog 166 #[sto B, tx p] w fun e w' => e = .returned (.tuple #[.int .i64 (walkR F p).1, .int .i64 (walkR F p).2]) ∧ Fs w' B F (m + 210000) ∧ BG B w w' := by
  have hS := split_at p hp w
  have HF : Hid (Fs w B F m) := h
  clear h
  by_cases hz : splitR p = 0
  · rw [hz] at hS
    have HW : Hid (walkR F p = wkR F 0 (splitP p)) := by show _ = _; unfold walkR; rw [if_pos hz]
    have hL := split_len p
    clear hz
    generalize splitP p = ts at *
    go_enter Tryz.func166, Tryz.ntmps166
    go_wp2_with fail
    refine hS.mono ?_
    rintro e w1 ⟨v, rfl, hT, hb⟩
    have hWk := walk_at (HF.out.below hb) hA hm hT hL
    obtain ⟨a, cap, rfl, -⟩ := hT.form
    have HB : Hid (Below w.heap.size w w1) := hb
    rw [← HW.out] at hWk
    clear hS hT hb
    go_wp2_with fail
    refine hWk.mono ?_
    rintro e w2 ⟨rfl, hf2, hbg2⟩
    have HQ : Hid (Fs w2 B F (m + 210000) ∧ BG B w w2) := ⟨hf2, SU.trans (bg_of HB.out) hbg2⟩
    clear hWk hf2 hbg2
    go_wp2
    go_ret2
    exact ⟨rfl, HQ.out⟩
  · have HW : Hid (walkR F p = (0, splitR p)) := by show _ = _; unfold walkR; rw [if_neg hz]
    have hzb : (splitR p == 0) = false := by simpa using hz
    generalize splitP p = ts at *
    generalize splitR p = er at *
    go_enter Tryz.func166, Tryz.ntmps166
    go_wp2_with fail
    refine hS.mono ?_
    rintro e w1 ⟨v, rfl, hT, hb⟩
    obtain ⟨a, cap, rfl, -⟩ := hT.form
    have HQ : Hid (Fs w1 B F (m + 210000) ∧ BG B w w1) := ⟨(HF.out.below hb).mono (by omega), bg_of hb⟩
    clear hS hT hb
    go_wp2
    go_ret2
    exact ⟨by rw [HW.out]; rfl, HQ.out⟩
/-- What Parent answers. -/
def paR (F : FS) (p : List UInt8) : Int × List UInt8 × Int :=
  if splitR p = 0 then (if (splitP p).isEmpty = true then (0, [], 22) else if (wkR F 0 ((splitP p).take ((splitP p).length - 1))).2 = 0 then (if isD F (wkR F 0 ((splitP p).take ((splitP p).length - 1))).1 = true then ((wkR F 0 ((splitP p).take ((splitP p).length - 1))).1, (splitP p).getD ((splitP p).length - 1) [], 0) else (0, [], 20)) else (0, [], (wkR F 0 ((splitP p).take ((splitP p).length - 1))).2)) else (0, [], splitR p)
theorem parent_last {ts : List (List UInt8)} (h : ts ≠ []) : ts[ts.length - 1]? = some (ts.getD (ts.length - 1) []) := by
  have : ts.length - 1 < ts.length := by have := List.length_pos_iff.2 h; omega
  rw [List.getD_eq_getElem?_getD, List.getElem?_eq_getElem this]
  rfl
set_option maxRecDepth 100000 in
theorem slice_h (a : Option Addr) (len cap k : Nat) (hk : k ≤ cap) (V : World) : (Instr.slice 153 (.slice a len cap) none (some (.int .i64 (k : Int))) none).run Tryz.prog V = .ok (.slice a k cap) V := by
  obtain ⟨i0, hi0, hzz⟩ := Option.map_eq_some_iff.1 txtInfo
  have hk0 : (k : Int) ≤ (cap : Int) := by omega
  rw [run_slice_h V 153 _ _ _ Tryz.underlying153 _ _ (by omega) hk0]
  cases a with
  | none => simp [sizeOf, typeInfo, elemT, hi0, sliced]
  | some x =>
    obtain ⟨xb, xo, xs⟩ := x
    cases xs <;> simp [sizeOf, typeInfo, elemT, hi0, sliced, Addr.add]
set_option maxHeartbeats 4000000 in
set_option maxRecDepth 100000 in
theorem Parent_at (h : Fs w B F m) (hA : AllD F) (hm : m ≤ 700000000000) (p : List UInt8) (hp : p.length ≤ 9223372036854775807) :
    Calls Tryz.prog 163 #[sto B, tx p] w fun e w' => e = .returned (.tuple #[.int .i64 (paR F p).1, tx (paR F p).2.1, .int .i64 (paR F p).2.2]) ∧ Fs w' B F (m + 225000) ∧ BG B w w' := by
  have hS := split_at p hp w
  have HF : Hid (Fs w B F m) := h
  clear h
  by_cases hz : splitR p = 0
  · rw [hz] at hS
    have hL := split_len p
    have HW : Hid (paR F p = (if (splitP p).isEmpty = true then (0, [], 22) else if (wkR F 0 ((splitP p).take ((splitP p).length - 1))).2 = 0 then (if isD F (wkR F 0 ((splitP p).take ((splitP p).length - 1))).1 = true then ((wkR F 0 ((splitP p).take ((splitP p).length - 1))).1, (splitP p).getD ((splitP p).length - 1) [], 0) else (0, [], 20)) else (0, [], (wkR F 0 ((splitP p).take ((splitP p).length - 1))).2))) := by show _ = _; unfold paR; rw [if_pos hz]
    clear hz
    generalize splitP p = ts at *
    go_enter Tryz.func163, Tryz.ntmps163
    go_wp2_with fail
    refine hS.mono ?_
    rintro e w1 ⟨v, rfl, hT, hb⟩
    obtain ⟨a, cap, rfl, hcap⟩ := hT.form
    have HT : Hid (Ts w1 w.heap.size (.slice a ts.length cap) ts) := hT
    have HB : Hid (Below w.heap.size w w1) := hb
    clear hS hT hb
    by_cases he : ts = []
    · subst he
      have HP : Hid (paR F p = (0, [], 22)) := HW.out
      have HQ : Hid (Fs w1 B F (m + 225000) ∧ BG B w w1) := ⟨(HF.out.below HB.out).mono (by omega), bg_of HB.out⟩
      clear HW
      go_wp2
      go_ret3
      exact ⟨by rw [HP.out]; rfl, HQ.out⟩
    · have hpos := List.length_pos_iff.2 he
      have hne : ((ts.length : Int) == 0) = false := beq_false_of_ne (by omega)
      have HW2 : Hid (paR F p = (if (wkR F 0 (ts.take (ts.length - 1))).2 = 0 then (if isD F (wkR F 0 (ts.take (ts.length - 1))).1 = true then ((wkR F 0 (ts.take (ts.length - 1))).1, ts.getD (ts.length - 1) [], 0) else (0, [], 20)) else (0, [], (wkR F 0 (ts.take (ts.length - 1))).2))) := by
        have := HW.out
        rw [if_neg (by simpa using he)] at this
        exact this
      obtain ⟨n, hn⟩ : ∃ n, n = ts.length - 1 := ⟨_, rfl⟩
      obtain ⟨z, hzz⟩ : ∃ z, z = ts.getD (ts.length - 1) [] := ⟨_, rfl⟩
      have HZ : Hid (ts[n]? = some z) := by rw [hn, hzz]; exact parent_last he
      rw [← hzz, ← hn] at HW2
      have hwn : IntKind.i64.wrap ((ts.length : Int) - 1) = (n : Int) := by simp [IntKind.wrap, IntKind.bits, IntKind.signed]; omega
      have hnl : n < ts.length := by omega
      have hsl := slice_h a ts.length cap n (by omega)
      have hWk := walk_at (HF.out.below HB.out) hA hm (HT.out.take n (by omega)) (by rw [List.length_take]; omega)
      clear hn hzz HW he
      obtain ⟨pr, hpr⟩ : ∃ pr, pr = wkR F 0 (ts.take n) := ⟨_, rfl⟩
      rw [← hpr] at hWk HW2
      clear hpr
      obtain ⟨i, er⟩ := pr
      dsimp only at hWk HW2
      go_wp2_with fail
      refine hWk.mono ?_
      rintro e w2 ⟨rfl, hf2, hbg2⟩
      have HQ2 : Hid (Fs w2 B F (m + 210000) ∧ BG B w w2) := ⟨hf2, SU.trans (bg_of HB.out) hbg2⟩
      have HT2 : Hid (Ts w2 w.heap.size (.slice a ts.length cap) ts) := HT.out.st hbg2
      clear hWk hf2 hbg2 HT HB
      by_cases her : er = 0
      · subst her
        have hD := isDir_at HQ2.out.1 (by omega) i
        cases hd : isD F i with
        | true =>
          rw [hd] at hD HW2
          have HP : Hid (paR F p = (i, z, 0)) := HW2.out
          clear hd HW2
          go_wp2_with fail
          refine hD.mono ?_
          rintro e w3 ⟨rfl, hf3, hbg3⟩
          have HQ3 : Hid (Fs w3 B F (m + 225000) ∧ BG B w w3) := ⟨hf3.mono (by omega), HQ2.out.2.trans hbg3⟩
          obtain ⟨g, rfl, c0, _⟩ := (HT2.out.st hbg3).at HZ.out
          have hni : (n : Int) < (ts.length : Int) := by omega
          clear hD hf3 hbg3 HQ2 HT2
          go_wp2
          go_quiet (fail)
          go_wp2
          go_ret3
          refine ⟨by rw [HP.out]; rfl, ?_, ?_⟩
          · exact HQ3.out.1.below (Di.drewN_below ⟨_, rfl⟩)
          · exact HQ3.out.2.trans (bg_of (Di.drewN_below ⟨_, rfl⟩))
        | false =>
          rw [hd] at hD HW2
          have HP : Hid (paR F p = (0, [], 20)) := HW2.out
          clear hd HW2
          go_wp2_with fail
          refine hD.mono ?_
          rintro e w3 ⟨rfl, hf3, hbg3⟩
          have HQ3 : Hid (Fs w3 B F (m + 225000) ∧ BG B w w3) := ⟨hf3.mono (by omega), HQ2.out.2.trans hbg3⟩
          clear hD hf3 hbg3 HQ2 HT2
          go_wp2
          go_ret3
          exact ⟨by rw [HP.out]; rfl, HQ3.out⟩
      · have HP : Hid (paR F p = (0, [], er)) := by have := HW2.out; rw [if_neg her] at this; exact this
        have herb : (er == 0) = false := by simpa using her
        clear HW2
        go_wp2
        go_ret3
        exact ⟨by rw [HP.out]; rfl, HQ2.out.1.mono (by omega), HQ2.out.2⟩
  · have HP : Hid (paR F p = (0, [], splitR p)) := by show _ = _; unfold paR; rw [if_neg hz]
    have hzb : (splitR p == 0) = false := by simpa using hz
    generalize splitP p = ts at *
    generalize splitR p = er at *
    go_enter Tryz.func163, Tryz.ntmps163
    go_wp2_with fail
    refine hS.mono ?_
    rintro e w1 ⟨v, rfl, hT, hb⟩
    obtain ⟨a, cap, rfl, -⟩ := hT.form
    have HQ : Hid (Fs w1 B F (m + 225000) ∧ BG B w w1) := ⟨(HF.out.below hb).mono (by omega), bg_of hb⟩
    clear hS hT hb
    go_wp2
    go_ret3
    exact ⟨by rw [HP.out]; rfl, HQ.out⟩
end
end Go.Proofs.YtcjpahnlckfgoaaGreatDoor
