/- Proved: januslaw11.ExoipcOrder answers true for all slices of words and all bools (messages of one to another come in their order, each once, with their words), at the commit of this claim; no condition beyond the row's own. -/
import Derived.Test.YtikeknehkoccpaaOrdM11
import Derived.Deep.DeepCutAuto
import Derived.Deep.CutBlock
namespace Go.Proofs.Ytikeknehkoccpaa
open Go.ChangeShapes Go.WideShapes Go.ChangeAt Go.RowKit Go.Lib Go.Joins
set_option linter.unusedVariables false

/-- What waits for 3 is what is left: of 1, with these words. -/
def Lines (Q : QS) (hs : List Hd) : Prop := (qat Q 3).map (fun m => (m.fr, m.ws)) = hs.map (fun h => ((1 : Int), h.ws))
theorem Lines.len {Q : QS} {hs : List Hd} (h : Lines Q hs) : (qat Q 3).length = hs.length := by
  have := congrArg List.length h
  simpa using this
theorem Lines.nil {Q : QS} (h : Lines Q []) : qat Q 3 = [] := by
  have := h.len
  exact List.length_eq_zero_iff.1 this
theorem Lines.cons {Q : QS} {x : Hd} {hs : List Hd} (h : Lines Q (x :: hs)) : ∃ m R, qat Q 3 = m :: R ∧ m.fr = 1 ∧ m.ws = x.ws ∧ R.map (fun m => (m.fr, m.ws)) = hs.map (fun h => ((1 : Int), h.ws)) := by
  unfold Lines at h
  cases hq : qat Q 3 with
  | nil => rw [hq] at h; simp at h
  | cons m R =>
    rw [hq] at h
    simp only [List.map_cons, List.cons.injEq, Prod.mk.injEq] at h
    exact ⟨m, R, rfl, h.1.1, h.1.2, h.2⟩
theorem Lines.recv {Q : QS} {x : Hd} {hs : List Hd} (h : Lines Q (x :: hs)) : Lines (recvQ Q 3) hs := by
  obtain ⟨m, R, hq, _, _, hr⟩ := h.cons
  unfold Lines
  rw [qat_recv, if_pos rfl, hq]
  exact hr
theorem Lines.recv0 {Q : QS} (h : Lines Q []) : Lines (recvQ Q 3) [] := by
  unfold Lines
  rw [qat_recv, if_pos rfl, h.nil]
  rfl
theorem Lines.send {Q : QS} {hs : List Hd} (h : Lines Q hs) {x : Hd} {a : Option Addr} {c : Nat} (hs0 : sendR Q 1 3 x.ws.length = 0) : Lines (sendQ Q 1 3 a c x.ws) (hs ++ [x]) := by
  unfold Lines
  rw [qat_send hs0, if_pos rfl, List.map_append, List.map_append, h]
  rfl
theorem Lines.sendR {Q : QS} {hs : List Hd} (h : Lines Q hs) (n : Nat) : sendR Q 1 3 n = if n ≤ 8 then (if hs.length < 4 then 0 else 105) else 101 := by
  unfold Go.Proofs.Ytikeknehkoccpaa.sendR
  rw [h.len]
  by_cases hn : n ≤ 8
  · rw [if_pos ⟨rfl, rfl, hn⟩, if_pos hn]
  · rw [if_neg (fun q => hn q.2.2), if_neg hn]

set_option maxRecDepth 100000 in
set_option maxHeartbeats 8000000 in
theorem order_walk (a0 a1 : Option Addr) (ll lc tl tc : Nat) (w : World) (hl1 : ll ≤ 9223372036854775807) (hl2 : tl ≤ 9223372036854775807) (hL : Hid (ListsAt w a0 ll)) (hT : Hid (BoolsAt w a1 tl)) :
    Calls Try.prog 4 #[.slice a0 ll lc, .slice a1 tl tc] w fun e w' => e = .returned (.bool true) ∧ Below w.heap.size w w' := by
  go_enter Try.func4, Try.ntmps4
  go_wp2_with fail
  refine (new_at w).mono ?_
  rintro e w1 ⟨rfl, hA, hB⟩
  obtain ⟨b, hbq⟩ : ∃ b, b = w.heap.size := ⟨_, rfl⟩
  rw [← hbq] at hA ⊢
  have hne := ptr_eq b
  have HA : Hid (IpcAt w1 b b Q0) := hA
  have HB : Hid (Below w.heap.size w w1) := hB
  have hwb : w.heap.size ≤ b := by omega
  have hbw : b ≤ w.heap.size := by omega
  clear hA hB hbq
  go_wp2
  go_loopw [6, 7, 8] (fun s6 s7 s8 wr => ∃ (i k : Nat) (v : Value) (hs : List Hd) (Q : QS), i ≤ tl ∧ i ≤ 200 ∧ k ≤ ll ∧ k ≤ i ∧ v = s6 ∧ s7 = .int .i64 k ∧ s8 = .int .i64 i ∧ LRow wr b v hs ∧ IpcAt wr b b Q ∧ Hid (Lines Q hs) ∧ Hid (∀ h ∈ hs, Rd w h.a h.ws ∧ h.ws.length ≤ 8) ∧ Below w.heap.size w wr) (fun _ _ s8 _ => 200 - (intOf s8).toNat)
  case atStart => exact ⟨0, 0, _, [], Q0, by omega, by omega, by omega, by omega, rfl, rfl, rfl, Or.inl ⟨rfl, rfl⟩, HA.out, rfl, (show Hid _ from fun h hh => by simp at hh), HB.out⟩
  case round =>
    clear HA HB
    obtain ⟨i, k, v, hs, Q, hi, hi2, hk, hki, rfl, rfl, rfl, hR, hA, HL, HRd, hB⟩ := hrel
    have hsz : b ≤ wr.heap.size := Nat.le_trans hbw hB.size
    have hl4 : hs.length ≤ 4 := by rw [← Lines.len HL.out]; exact hA.len 3
    by_cases hlt : i < tl ∧ i < 200
    · obtain ⟨l1, l2⟩ := hlt
      obtain ⟨tg, to_, x, rfl, e0⟩ := (hT.out.below hB) i l1
      have g0 : decide ((i : Int) < (tl : Int)) = true := decide_eq_true (by omega)
      have g1 : decide ((i : Int) < 200) = true := decide_eq_true (by omega)
      have ii : (i : Int) < (tl : Int) := by omega
      have HB : Hid _ := hB
      cases x with
      | true =>
        have hRv := recv_at b b Q 3 wr hA
        cases hs with
        | nil =>
          rw [Lines.nil HL.out] at hRv
          obtain ⟨av, cv, rfl⟩ := hR.form
          have HR : Hid (LRow wr b (.slice av 0 cv) []) := hR
          dsimp only [recvF, recvV, recvB] at hRv
          clear hR hA hB hl4
          dsimp only [List.length_nil]
          go_wp2_with fail
          refine hRv.mono ?_
          rintro e w2 ⟨rfl, hA2, hT2⟩
          have HA2 : Hid (IpcAt w2 b b (recvQ Q 3)) := hA2
          have HT2 : Hid (Tch b wr w2) := hT2
          clear hA2 hT2 hRv
          go_wp2_with fail
          go_roundw
          case rel => exact ⟨i + 1, k, _, [], _, by omega, by omega, hk, by omega, rfl, rfl, by go_num, LRow.tch HR.out HT2.out, HA2.out, Lines.recv0 HL.out, HRd, HB.out.trans ((HT2.out.below hsz).mono hwb)⟩
          case measure => simp [intOf]; omega
        | cons h hs =>
          obtain ⟨m, R, hq, hfr, hws, _⟩ := Lines.cons HL.out
          have hwd := hA.wd (n := 3) (m := m) (by rw [hq]; simp)
          rw [hq] at hRv
          obtain ⟨g, off, cap, a', rfl, hcap, ⟨curg, hhg⟩, c0, hcut, hR2⟩ := hR.tail
          have HR2 : Hid (LRow wr b (.slice (some a') hs.length (cap - 1)) hs) := hR2
          have HHG : Hid (wr.heap[g]? = some (.cells curg 29 (0, 0))) := hhg
          obtain ⟨mf, ma, mc, mw⟩ := m
          dsimp only [recvF, recvV, recvB, Mg.v] at *
          subst hfr hws
          have HWd : Hid (Wd wr ma h.ws) := hwd
          have HRh : Hid (Rd w h.a h.ws) := (HRd.out h (by simp)).1
          have HW8 : Hid (h.ws.length ≤ 8) := (HRd.out h (by simp)).2
          have HRd2 : Hid (∀ y ∈ hs, Rd w y.a y.ws ∧ y.ws.length ≤ 8) := fun y hy => HRd.out y (by simp [hy])
          have HL2 : Hid (Lines (recvQ Q 3) hs) := Lines.recv HL.out
          have gl : decide ((0 : Int) < (hs.length : Int) + 1) = true := decide_eq_true (by omega)
          have gl2 : decide ((0 : Int) < ((hs.length + 1 : Nat) : Int)) = true := decide_eq_true (by omega)
          have HC0 : Hid (wr.cell? ⟨g, off, none⟩ = some h.v) := c0
          clear hR hR2 hA hB hq hwd c0 hhg hl4
          go_wp2_with fail
          refine hRv.mono ?_
          rintro e w2 ⟨rfl, hA2, hT2⟩
          have HA2 : Hid (IpcAt w2 b b (recvQ Q 3)) := hA2
          have HT2 : Hid (Tch b wr w2) := hT2
          have hbl2 : Below w.heap.size w w2 := HB.out.trans ((hT2.below hsz).mono hwb)
          have HB2 : Hid (Below w.heap.size w w2) := hbl2
          have c2 : w2.cell? ⟨g, off, none⟩ = some (.slice h.a h.ws.length h.cap) := cell_same HC0.out ((hT2.other HHG.out (by decide) (by decide)).trans HHG.out.symm)
          have hWs := words_same h.ws ma h.a mc h.cap w2 (Wd.tch HWd.out hT2).rd (Rd.below HRh.out hbl2) (by have := HW8.out; omega)
          clear hA2 hT2 hRv hbl2
          go_wp2_with fail
          refine hWs.mono ?_
          rintro e w3 ⟨rfl, hb3⟩
          have HB3 : Hid (Below w2.heap.size w2 w3) := hb3
          clear hb3 hWs c2
          go_wp2_with fail
          go_roundw
          case rel => exact ⟨i + 1, k, _, hs, _, by omega, by omega, hk, by omega, rfl, rfl, by go_num, (LRow.tch HR2.out HT2.out).below HB3.out, IpcAt.below HA2.out HB3.out, HL2, HRd2, HB2.out.trans (HB3.out.mono HB2.out.size)⟩
          case measure => simp [intOf]; omega
      | false =>
        obtain ⟨av, cv, rfl⟩ := hR.form
        have HR : Hid (LRow wr b (.slice av hs.length cv) hs) := hR
        have HA : Hid (IpcAt wr b b Q) := hA
        by_cases hkl : k < ll
        · obtain ⟨lg, lo, h, rfl, d0, hrd⟩ := (hL.out.below hB) k hkl
          have hS := send_at b b Q 1 3 h.a h.ws h.cap wr hA hrd hsz
          rw [Lines.sendR HL.out] at hS
          have hlg : lg < b := by
            obtain ⟨g2, o2, h2, e, q, _⟩ := hL.out k hkl
            simp only [Option.some.injEq, Addr.mk.injEq] at e
            obtain ⟨rfl, _, _⟩ := e
            exact Nat.lt_of_lt_of_le (cell_lt q) hwb
          have HRh : Hid (Rd w h.a h.ws) := by
            obtain ⟨g2, o2, h2, e, q, hr2⟩ := hL.out k hkl
            simp only [Option.some.injEq, Addr.mk.injEq] at e
            obtain ⟨rfl, rfl, _⟩ := e
            have := hB.cell (p := ⟨lg, lo + k, none⟩) (cell_lt q)
            rw [d0, q] at this
            simp only [Option.some.injEq, Value.slice.injEq] at this
            obtain ⟨ea, el, ec⟩ := this
            have hr3 := hr2.below hB
            have : h.ws = h2.ws := by
              apply List.ext_getElem?
              intro j
              cases h5 : h.ws[j]? with
              | none =>
                have : h2.ws[j]? = none := by
                  rw [List.getElem?_eq_none_iff] at h5 ⊢
                  omega
                rw [this]
              | some y =>
                have hj : j < h2.ws.length := by have := (List.getElem?_eq_some_iff.1 h5).1; omega
                have h6 := List.getElem?_eq_getElem hj
                obtain ⟨g5, o5, e5, q5⟩ := hrd j y h5
                obtain ⟨g6, o6, e6, q6⟩ := hr3 j _ h6
                rw [ea, e6] at e5
                simp only [Option.some.injEq, Addr.mk.injEq] at e5
                obtain ⟨rfl, rfl, _⟩ := e5
                rw [q6] at q5
                simp only [Option.some.injEq, Value.int.injEq, true_and] at q5
                rw [h6, q5]
            rw [this, ea]
            exact hr2
          have hki2 : (k : Int) < (ll : Int) := by omega
          have gk : decide ((ll : Int) ≤ (k : Int)) = false := decide_eq_false (by omega)
          have HD0 : Hid (wr.cell? ⟨lg, lo + k, none⟩ = some (.slice h.a h.ws.length h.cap)) := d0
          by_cases h8 : h.ws.length ≤ 8
          · have g8 : decide ((8 : Int) < (h.ws.length : Int)) = false := decide_eq_false (by omega)
            rw [if_pos h8] at hS
            by_cases h4 : hs.length < 4
            · have g4 : decide ((4 : Int) ≤ (hs.length : Int)) = false := decide_eq_false (by omega)
              have HSR : Hid (sendR Q 1 3 h.ws.length = 0) := by show _ = _; rw [Lines.sendR HL.out, if_pos h8, if_pos h4]
              rw [if_pos h4] at hS
              clear hR hA hB hrd
              go_wp2_with fail
              refine hS.mono ?_
              rintro e w2 ⟨rfl, ⟨a2, c2, hA2⟩, hT2⟩
              have hbl2 := hT2.below hsz
              have HB2 : Hid (Below w.heap.size w w2) := HB.out.trans (hbl2.mono hwb)
              have e2 : w2.cell? ⟨lg, lo + k, none⟩ = some (.slice h.a h.ws.length h.cap) := (hbl2.cell (p := ⟨lg, lo + k, none⟩) hlg).trans HD0.out
              have hs2 : b ≤ w2.heap.size := Nat.le_trans hsz hT2.size
              obtain ⟨W, hW⟩ : ∃ W, W = w2.alloc (.cells #[.slice h.a h.ws.length h.cap] 29) := ⟨_, rfl⟩
              have hbW : Below w2.heap.size w2 W := by rw [hW]; exact below_alloc _ _
              have hXW : W.heap[w2.heap.size]? = some (.cells #[h.v] 29 (0, 0)) := by rw [hW]; exact heap_alloc_new _ _
              obtain ⟨a5, c5, w5, hrun, hL5, hT5⟩ := left_append ((LRow.tch HR.out hT2).below hbW) h w2.heap.size hXW (by omega) (Nat.le_trans hs2 hbW.size)
              have HRun : Hid (∀ ty, (Builtin.append_ #[45, 45] ty #[.slice av hs.length cv, .slice (some ⟨w2.heap.size, 0, none⟩) 1 1]).run Try.prog W = .ok (.slice a5 (hs ++ [h]).length c5) w5) := hrun
              have HL5 : Hid (LRow w5 b (.slice a5 (hs ++ [h]).length c5) (hs ++ [h])) := hL5
              have HA5 : Hid (IpcAt w5 b b (sendQ Q 1 3 a2 c2 h.ws)) := (hA2.below hbW).tchl hT5
              have HB5 : Hid (Below w.heap.size w w5) := (HB2.out.trans (hbW.mono HB2.out.size)).trans (hT5.1.mono hwb)
              have HLi : Hid (Lines (sendQ Q 1 3 a2 c2 h.ws) (hs ++ [h])) := Lines.send HL.out HSR.out
              have HRd5 : Hid (∀ y ∈ hs ++ [h], Rd w y.a y.ws ∧ y.ws.length ≤ 8) := by
                intro y hy
                rcases List.mem_append.1 hy with hy | hy
                · exact HRd.out y hy
                · rw [List.mem_singleton] at hy
                  subst hy
                  exact ⟨HRh.out, h8⟩
              have HW : Hid (W = w2.alloc (.cells #[.slice h.a h.ws.length h.cap] 29)) := hW
              clear hA2 hT2 hbl2 hS hW hbW hXW hrun hL5 hT5 d0 e0
              generalize hs ++ [h] = hs5 at *
              go_wp2_with (at_builtin; rw [← HW.out]; refine wpList_append_eq rfl _ _ _ rfl _ _ _ rfl rfl HRun.out ?_)
              go_roundw
              case rel => exact ⟨i + 1, k + 1, _, hs5, _, by omega, by omega, by omega, by omega, rfl, by go_num, by go_num, HL5.out, HA5.out, HLi, HRd5, HB5.out⟩
              case measure => simp [intOf]; omega
            · have g4 : decide ((4 : Int) ≤ (hs.length : Int)) = true := decide_eq_true (by omega)
              have HSR : Hid (sendR Q 1 3 h.ws.length = 105) := by show _ = _; rw [Lines.sendR HL.out, if_pos h8, if_neg h4]
              rw [if_neg h4] at hS
              clear hR hA hB hrd
              go_wp2_with fail
              refine hS.mono ?_
              rintro e w2 ⟨rfl, ⟨a2, c2, hA2⟩, hT2⟩
              have hbl2 := hT2.below hsz
              have HB2 : Hid (Below w.heap.size w w2) := HB.out.trans (hbl2.mono hwb)
              have e2 : w2.cell? ⟨lg, lo + k, none⟩ = some (.slice h.a h.ws.length h.cap) := (hbl2.cell (p := ⟨lg, lo + k, none⟩) hlg).trans HD0.out
              rw [sendQ_no (by rw [HSR.out]; decide)] at hA2
              have HA2 : Hid (IpcAt w2 b b Q) := hA2
              have HT2 : Hid (Tch b wr w2) := hT2
              clear hA2 hT2 hbl2 hS d0 e0
              go_wp2_with fail
              go_roundw
              case rel => exact ⟨i + 1, k + 1, _, hs, Q, by omega, by omega, by omega, by omega, rfl, by go_num, by go_num, LRow.tch HR.out HT2.out, HA2.out, HL, HRd, HB2.out⟩
              case measure => simp [intOf]; omega
          · have g8 : decide ((8 : Int) < (h.ws.length : Int)) = true := decide_eq_true (by omega)
            have HSR : Hid (sendR Q 1 3 h.ws.length = 101) := by show _ = _; rw [Lines.sendR HL.out, if_neg h8]
            rw [if_neg h8] at hS
            clear hR hA hB hrd
            go_wp2_with fail
            refine hS.mono ?_
            rintro e w2 ⟨rfl, ⟨a2, c2, hA2⟩, hT2⟩
            have hbl2 := hT2.below hsz
            have HB2 : Hid (Below w.heap.size w w2) := HB.out.trans (hbl2.mono hwb)
            have e2 : w2.cell? ⟨lg, lo + k, none⟩ = some (.slice h.a h.ws.length h.cap) := (hbl2.cell (p := ⟨lg, lo + k, none⟩) hlg).trans HD0.out
            rw [sendQ_no (by rw [HSR.out]; decide)] at hA2
            have HA2 : Hid (IpcAt w2 b b Q) := hA2
            have HT2 : Hid (Tch b wr w2) := hT2
            clear hA2 hT2 hbl2 hS d0 e0
            go_wp2_with fail
            go_roundw
            case rel => exact ⟨i + 1, k + 1, _, hs, Q, by omega, by omega, by omega, by omega, rfl, by go_num, by go_num, LRow.tch HR.out HT2.out, HA2.out, HL, HRd, HB2.out⟩
            case measure => simp [intOf]; omega
        · have gk : decide ((ll : Int) ≤ (k : Int)) = true := decide_eq_true (by omega)
          clear hR hA hB
          go_wp2_with fail
          go_roundw
          case rel => exact ⟨i + 1, k, _, hs, Q, by omega, by omega, by omega, by omega, rfl, rfl, by go_num, HR.out, HA.out, HL, HRd, HB.out⟩
          case measure => simp [intOf]; omega
    · have HB : Hid (Below w.heap.size w wr) := hB
      have stop : (decide ((i : Int) < (tl : Int)) = false ∧ tl ≤ i) ∨ (decide ((i : Int) < (tl : Int)) = true ∧ decide ((i : Int) < 200) = false ∧ i < tl ∧ 200 ≤ i) := by
        simp only [decide_eq_true_eq, decide_eq_false_iff_not]
        omega
      clear hA hB hlt hT hL HL HRd hR
      rcases stop with ⟨g0, l0⟩ | ⟨g0, g1, l0, l1⟩
      all_goals
        go_wp2_with fail
        refine (awake_at _).mono ?_
        rintro e w6 ⟨rfl, hb6⟩
        go_wp2
        go_ret
        exact ⟨rfl, HB.out.trans (hb6.mono HB.out.size)⟩

theorem own : ownKnob Try.prog.godebug = none := by kernel_rfl
theorem laidOut : laidOutB Try.prog = true := by kernel_rfl

set_option maxRecDepth 100000 in
theorem order_lifted (os : Os) (started : os.Started) (H : Type) (enc : TypeId × Value → H) :
    ReturnsInHanded {} Try.checked os 4 .any (Rows.exoipcOrderSpec.pre6 enc Try.prog Try.f4 Rows.exoipcOrderRow.domain false) (Rows.exoipcOrderSpec.post enc Try.prog Try.f4 false true false false) := by
  refine returnsInHanded_of_change (C := Try.checked) own started (by kernel_rfl) Try.func4
    (ChangeSpec.witness6 (enc := enc) (C := Try.checked) false ⟨#[], #[.slice none 0 0, .slice none 0 0], []⟩ 8 (by kernel_rfl) (by kernel_rfl) (by kernel_rfl) (by kernel_rfl)) ?_
  intro W base args ds gs before hval0 hW hcnd _
  have hval : ∀ (j : Nat) t v, Try.f4.params[j]? = some t → args[j]? = some v → Value.okWide Try.prog W .any base t v := hval0
  have hW' := hW
  obtain ⟨p, q, hA0, hV, rfl, hfz, hnd⟩ := hW
  have hA : DataW.TrodAll enc Try.prog W 0 (fun _ => true) true Try.f4.params.toList args.toList ds p := hA0
  rw [Try.params4] at hA hval
  obtain ⟨v0, vs0, d0, ds0, p0, q0, hargs, rfl, rfl, h0, r0⟩ := trodAll_cons hA
  obtain ⟨v1, vs1, d1, ds1, p1, q1, rfl, rfl, rfl, h1, r1⟩ := trodAll_cons r0
  obtain ⟨rfl, rfl, rfl⟩ := trodAll_nil r1
  obtain rfl : args = #[v0, v1] := by cases args; simp_all
  obtain ⟨rfl, rfl⟩ := trodVars_none hV
  have k0 := h0
  have lt0 : ∀ x ∈ p0, x.block < W.heap.size := by obtain ⟨m, hm⟩ := k0; exact DataW.trod_lt m _ _ _ hm
  obtain ⟨a0, len0, cap0, rfl⟩ := okWide_slice Try.underlying45 (hval 0 45 v0 rfl rfl)
  have k1 := h1
  have lt1 : ∀ x ∈ p1, x.block < W.heap.size := by obtain ⟨m, hm⟩ := k1; exact DataW.trod_lt m _ _ _ hm
  obtain ⟨a1, len1, cap1, rfl⟩ := okWide_slice Try.underlying46 (hval 1 46 v1 rfl rfl)
  clear hA0 hval0
  have hl : len0 ≤ 9223372036854775807 ∧ ListsAt W a0 len0 := by
    obtain ⟨fuel, hf⟩ := h0
    exact lists_in (by simpa [Value.cells] using hf)
  have ht : len1 ≤ 9223372036854775807 ∧ BoolsAt W a1 len1 := by
    obtain ⟨fuel, hf⟩ := h1
    exact bools_in (by simpa [Value.cells] using hf)
  have hwalk : Calls Try.prog 4 #[.slice a0 len0 cap0, .slice a1 len1 cap1] W fun e w' => e = .returned (.bool true) ∧ Below W.heap.size W w' := order_walk a0 a1 len0 cap0 len1 cap1 W hl.1 ht.1 hl.2 ht.2
  refine hwalk.mono fun e W' ⟨he, bel⟩ => ?_
  subst he
  exact ⟨_, rfl, _, _, _, [], _, [], hW', trodAll_mk1 (shut_bool Try.underlying4 _), (trodAll_cons_mk (Below.trod laidOut (by kernel_rfl) (of_decide_eq_true (by kernel_rfl)) k0 bel lt0) (trodAll_cons_mk (Below.trod laidOut (by kernel_rfl) (of_decide_eq_true (by kernel_rfl)) k1 bel lt1) trodAll_mk0)), rfl, bel.frame _, fun h => by cases h⟩

theorem order_holds : Rows.ExoipcOrderSaid :=
  OpenClaim.holds_of_wide 4 Try.f4 rfl rfl rfl rfl rfl rfl rfl ⟨rfl, rfl, rfl, rfl, rfl⟩ rfl rfl rfl rfl rfl (by kernel_rfl) Try.func4 (by kernel_rfl)
    (of_decide_eq_true (by kernel_rfl)) (by unfold Func.isWrapper; first | (rw [if_pos (by decide +kernel)]; kernel_rfl) | (rw [if_neg (by decide +kernel)]; exact ⟨rfl, rfl⟩))
    (fun os started H enc _ => order_lifted os started H enc)
#print axioms order_holds
end Go.Proofs.Ytikeknehkoccpaa
