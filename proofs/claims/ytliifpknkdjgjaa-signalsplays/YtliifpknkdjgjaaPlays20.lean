/- januslaw20.SignalsPlays: the walk. -/
import Derived.Test.YtliifpknkdjgjaaDo20
import Derived.Test.YtliifpknkdjgjaaSgL
namespace Go.Proofs.Ytliifpknkdjgjaa
open Go.ChangeShapes Go.WideShapes Go.ChangeAt Go.RowKit Go.Lib
set_option linter.unusedVariables false

theorem encP_u64 {p : Sg} (h : p.Ok) : U64 (encP p) := by
  intro x hx
  unfold encP at hx
  rw [List.mem_append, List.mem_cons] at hx
  rcases hx with hx | rfl | hx
  · exact h.u64 x hx
  · have := h.pend.1
    omega
  · cases hk : p.k with
    | none =>
      rw [hk] at hx
      simp [encV] at hx
      omega
    | some z =>
      obtain ⟨pc, st⟩ := z
      obtain ⟨v1, v2, v3, v4⟩ := h.vm pc st hk
      rw [hk] at hx
      simp only [encV, List.mem_cons] at hx
      rcases hx with rfl | rfl | rfl | hx
      · omega
      · omega
      · omega
      · exact v4 x hx
theorem encS_u64 {S : SS} (h : SOk S) : U64 (encS S) := by
  have h1 : ∀ k, k ≤ 8 → U64 (encK S k) := by
    intro k
    induction k with
    | zero => intro _ x hx; simp [encK] at hx
    | succ k ih =>
      intro hk x hx
      simp only [encK, List.mem_append] at hx
      rcases hx with hx | hx
      · exact ih (by omega) x hx
      · exact encP_u64 (h k (by omega)) x hx
  exact h1 8 (Nat.le_refl _)
theorem fitB_yes {pc : Int} {n : Nat} (h : fitB pc n = true) : (0 ≤ pc ∧ pc ≤ 1048576) ∧ n ≤ 32 := by
  unfold fitB at h
  simpa using h
set_option maxRecDepth 100000 in
set_option maxHeartbeats 8000000 in
theorem plays_walk (a0' : Option Addr) (len cap : Nat) (w : World) (hlen : len ≤ 9223372036854775807) (hd : DeedsAt w a0' len) :
    Calls Try.prog 3 #[.slice a0' len cap] w fun e w' => e = .returned (.bool true) ∧ Below w.heap.size w w' := by
  have hdeeds : Hid (DeedsAt w a0' len) := hd
  have hN := new_at w
  obtain ⟨b0, hb⟩ : ∃ b, b = w.heap.size := ⟨_, rfl⟩
  rw [← hb] at hN
  have hbb0 : w.heap.size ≤ b0 := by omega
  have hne0 := ptr_eq b0 0
  have HBb : Hid (b0 = w.heap.size) := hb
  clear hb hd
  go_enter Try.func3, Try.ntmps3
  go_wp2_with fail
  refine hN.mono ?_
  rintro e w1 ⟨rfl, hA1, hB1⟩
  have HA1 : Hid (SgAt w1 b0 SS.first) := hA1
  have HB1 : Hid (Below w.heap.size w w1) := by rw [← HBb.out]; exact hB1
  have hXN := xnew_at w1
  have hcc : w.heap.size ≤ w1.heap.size := HB1.out.size
  obtain ⟨c, hc⟩ : ∃ c, c = w1.heap.size := ⟨_, rfl⟩
  rw [← hc] at hXN hcc
  have HCc : Hid (c = w1.heap.size) := hc
  clear hN hA1 hB1 hc
  go_wp2_with fail
  refine hXN.mono ?_
  rintro e w2 ⟨rfl, hR2, hB2⟩
  have HD0 : Hid (Duo w2 b0 c SS.first) := ⟨HA1.out.below (by rw [← HCc.out]; exact hB2), hR2, ok_first, fun _ _ => rfl⟩
  have HB0 : Hid (Below w.heap.size w w2) := HB1.out.trans (hB2.mono hcc)
  clear hXN hR2 hB2 HA1 HB1 HCc
  go_wp2
  clear hne0
  go_loopw [3, 5] (fun p s wr => ∃ (k b : Nat) (S : SS), k ≤ len ∧ k ≤ 150 ∧ .pointer (some ⟨b, 0, none⟩) = p ∧ s = .int .i64 k ∧ Duo wr b c S ∧ Below w.heap.size w wr ∧ w.heap.size ≤ b) (fun _ s _ => 150 - (intOf s).toNat)
  case atStart => exact ⟨0, b0, _, by omega, by omega, rfl, rfl, HD0.out, HB0.out, hbb0⟩
  case round =>
    clear HD0 HB0 hbb0 HBb
    obtain ⟨k, b, S, hk, hk2, rfl, rfl, hD, hB, hbb⟩ := hrel
    have hn1 := ptr_eq b 0
    by_cases hlt : k < len ∧ k < 150
    · obtain ⟨l1, l2⟩ := hlt
      obtain ⟨gb, off, ⟨dk, dp, ds, dh, pc, st, va, vc⟩, rfl, hcs, hok⟩ := hdeeds.out k l1
      have d0 : w.cell? ⟨gb, off + k * 6, none⟩ = some (.int .i64 dk) := hcs 0 (by omega)
      have d1 : w.cell? ⟨gb, off + k * 6 + 1, none⟩ = some (.int .i64 dp) := hcs 1 (by omega)
      have d2 : w.cell? ⟨gb, off + k * 6 + 2, none⟩ = some (.int .i64 ds) := hcs 2 (by omega)
      have d3 : w.cell? ⟨gb, off + k * 6 + 3, none⟩ = some (.int .u64 dh) := hcs 3 (by omega)
      have d4 : w.cell? ⟨gb, off + k * 6 + 4, none⟩ = some (.int .i64 pc) := hcs 4 (by omega)
      have d5 : w.cell? ⟨gb, off + k * 6 + 5, none⟩ = some (.slice va st.length vc) := hcs 5 (by omega)
      have e0 := (hB.cell (cell_lt d0)).trans d0
      have e1 := (hB.cell (cell_lt d1)).trans d1
      have e2 := (hB.cell (cell_lt d2)).trans d2
      have e3 := (hB.cell (cell_lt d3)).trans d3
      have e4 := (hB.cell (cell_lt d4)).trans d4
      have e5 := (hB.cell (cell_lt d5)).trans d5
      have HOk : Hid (DeedOk w ⟨dk, dp, ds, dh, pc, st, va, vc⟩) := hok
      have g0 : decide ((k : Int) < (len : Int)) = true := decide_eq_true (by omega)
      have g1 : decide ((k : Int) < 150) = true := decide_eq_true (by omega)
      have ik : (k : Int) < (len : Int) := by omega
      obtain ⟨W, hW⟩ : ∃ W, W = wr.alloc (.cells (deedRow ⟨dk, dp, ds, dh, pc, st, va, vc⟩) 32) := ⟨_, rfl⟩
      have hbW : Below wr.heap.size wr W := by rw [hW]; exact below_alloc _ _
      obtain ⟨D, hDn⟩ : ∃ D, D = wr.heap.size := ⟨_, rfl⟩
      have HX : Hid (Box W D ⟨dk, dp, ds, dh, pc, st, va, vc⟩) := by rw [hW, hDn]; exact heap_alloc_new _ _
      have hDb : D ≠ b := by have := hD.sg.lt; omega
      have hDc : D ≠ c := by have := hD.rg.lt; omega
      have HD : Hid (Duo W b c S) := hD.below hbW
      have HB : Hid (Below w.heap.size w W) := hB.trans (hbW.mono hB.size)
      have HW : Hid _ := hW
      have HDn : Hid (D = wr.heap.size) := hDn
      dsimp only [deedRow] at HW
      have hFi := fit_at pc va st.length vc W
      obtain ⟨c0, c1, c2, c3, c4, c5⟩ := Box.cells HX.out
      dsimp only at c0 c1 c2 c3 c4 c5
      clear hW hbW hD hB hDn d0 d1 d2 d3 d4 d5 hcs hok
      go_upto_region 8 with fail
      rw [← HW.out, ← HDn.out]
      clear HW HDn e0 e1 e2 e3 e4 e5 hdeeds ik
      cases hft : fitB pc st.length with
      | false =>
        rw [hft] at hFi
        clear hft
        go_wp2_with fail
        refine hFi.mono ?_
        rintro e w3 ⟨rfl, hb3⟩
        have HD3 : Hid (Duo w3 b c S) := HD.out.below hb3
        have HB3 : Hid (Below w.heap.size w w3) := HB.out.trans (hb3.mono HB.out.size)
        clear hb3 hFi c0 c1 c2 c3 c4 c5
        go_wp2
        go_roundw
        case rel => exact ⟨k + 1, b, S, by omega, by omega, rfl, by go_num, HD3.out, HB3.out, hbb⟩
        case measure => simp [intOf]; omega
      | true =>
        have HFt : Hid ((0 ≤ pc ∧ pc ≤ 1048576) ∧ st.length ≤ 32) := fitB_yes hft
        rw [hft] at hFi
        clear hft
        go_wp2_with fail
        refine hFi.mono ?_
        rintro e w3 ⟨rfl, hb3⟩
        have HD3 : Hid (Duo w3 b c S) := HD.out.below hb3
        have HB3 : Hid (Below w.heap.size w w3) := HB.out.trans (hb3.mono HB.out.size)
        have HX3 : Hid (Box w3 D ⟨dk, dp, ds, dh, pc, st, va, vc⟩) := Box.below HX.out hb3
        have hDo := do_at w w3 b c S ⟨dk, dp, ds, dh, pc, st, va, vc⟩ HD3.out HB3.out hbb hcc HOk.out.1 HFt.out HOk.out.2.1 HOk.out.2.2.2
        obtain ⟨x0, x1, x2, x3, x4, x5⟩ := Box.cells HX3.out
        dsimp only [deedRow] at x0 x1 x2 x3 x4 x5 hDo
        clear hb3 hFi c0 c1 c2 c3 c4 c5
        go_wp2_with fail
        refine hDo.mono ?_
        rintro e w4 ⟨rfl, ⟨T, hD4⟩, hU4⟩
        have HD4 : Hid (Duo w4 b c T) := hD4
        have HB4 : Hid (Below w.heap.size w w4) := HB3.out.trans (hU4.below (by rintro q (rfl | rfl) <;> assumption) HB3.out.size)
        have HX4 : Hid (Box w4 D ⟨dk, dp, ds, dh, pc, st, va, vc⟩) := (hU4.block D (lt_of_heap HX3.out) (by rintro (e | e); exact hDb e; exact hDc e)).trans HX3.out
        have HEl : Hid ((encS T).length ≤ 408) := encS_len hD4.ok
        have HEu : Hid (U64 (encS T)) := encS_u64 hD4.ok
        have HDe : Hid (decS (encS T) = some T) := dec_enc hD4.ok hD4.top
        have hEn := encode_at b T w4 hD4.sg hD4.ok
        clear hD4 hU4 hDo x0 x1 x2 x3 x4 x5
        go_wp2_with fail
        refine hEn.mono ?_
        rintro e w5 ⟨v5, rfl, hown5, hb5⟩
        obtain ⟨a5, k5, rfl, _, hrd5⟩ := own_rd hown5
        have HX5 : Hid (Box w5 D ⟨dk, dp, ds, dh, pc, st, va, vc⟩) := Box.below HX4.out hb5
        have HD5 : Hid (Duo w5 b c T) := HD4.out.below hb5
        have HB5 : Hid (Below w.heap.size w w5) := HB4.out.trans (hb5.mono HB4.out.size)
        have HR5 : Hid (Rd w5 a5 (encS T)) := hrd5
        have hXe := xencode_at c T w5 HD5.out.rg HD5.out.ok
        clear hb5 hown5 hrd5 hEn HX4 HD4 HB4
        go_wp2_with fail
        refine hXe.mono ?_
        rintro e w6 ⟨v6, rfl, hown6, hb6⟩
        obtain ⟨a6, k6, rfl, _, hrd6⟩ := own_rd hown6
        have HX6 : Hid (Box w6 D ⟨dk, dp, ds, dh, pc, st, va, vc⟩) := Box.below HX5.out hb6
        have HD6 : Hid (Duo w6 b c T) := HD5.out.below hb6
        have HB6 : Hid (Below w.heap.size w w6) := HB5.out.trans (hb6.mono HB5.out.size)
        have hWo := words_same (encS T) a5 a6 k5 k6 w6 (HR5.out.below hb6) hrd6 (by have := HEl.out; omega)
        clear hb6 hown6 hrd6 hXe HX5 HD5 HB5 HR5
        generalize hel : (encS T).length = el at *
        have HElE : Hid ((encS T).length = el) := hel
        clear hel
        go_wp2_with fail
        refine hWo.mono ?_
        rintro e w7 ⟨rfl, hb7⟩
        have HX7 : Hid (Box w7 D ⟨dk, dp, ds, dh, pc, st, va, vc⟩) := Box.below HX6.out hb7
        have HD7 : Hid (Duo w7 b c T) := HD6.out.below hb7
        have HB7 : Hid (Below w.heap.size w w7) := HB6.out.trans (hb7.mono HB6.out.size)
        obtain ⟨x0, x1, x2, x3, x4, x5⟩ := Box.cells HX7.out
        dsimp only at x0
        clear hb7 hWo HX6 HD6 HB6 x1 x2 x3 x4 x5
        have three : decide (7 < dk) = true ∨ (decide (7 < dk) = false ∧ decide (dk < 0) = true) ∨ (decide (7 < dk) = false ∧ decide (dk < 0) = false) := by
          simp only [decide_eq_true_eq, decide_eq_false_iff_not]
          omega
        have HDec : Hid (∀ (w8 : World) (a8 : Option Addr) (k8 : Nat), el ≤ k8 → Rd w8 a8 (encS T) → Calls Try.prog 15 #[.slice a8 el k8] w8 fun x w' => x = .returned (.tuple #[.pointer (some ⟨w8.heap.size, 0, none⟩), .int .i64 0]) ∧ SgAt w' w8.heap.size T ∧ Below w8.heap.size w8 w') := fun w8 a8 k8 hk8 hr8 => by
          have hl := HElE.out
          refine (decode_at a8 el k8 (encS T) w8 hr8 hl.symm hk8 HEu.out (by have := HEl.out; omega)).mono ?_
          rintro x w9 ⟨-, hx2, hb9⟩
          obtain ⟨hx, hA9⟩ := hx2 T HDe.out
          exact ⟨hx, hA9, hb9⟩
        have hE2 := encode_at b T w7 HD7.out.sg HD7.out.ok
        rcases three with t1 | ⟨t1, t2⟩ | ⟨t1, t2⟩
        · go_wp2_with fail
          refine hE2.mono ?_
          rintro e w8 ⟨v8, rfl, hown8, hb8⟩
          obtain ⟨a8, k8, rfl, hk8, hrd8⟩ := own_rd hown8
          have HB8 : Hid (Below w.heap.size w w8) := HB7.out.trans (hb8.mono HB7.out.size)
          have HD8 : Hid (Duo w8 b c T) := HD7.out.below hb8
          have hDe := HDec.out w8 a8 k8 (by rw [← HElE.out]; exact hk8) hrd8
          rw [HElE.out]
          clear hE2 hown8 hrd8 hb8 hk8
          go_wp2_with fail
          refine hDe.mono ?_
          rintro e w9 ⟨rfl, hA9, hb9⟩
          have HB9 : Hid (Below w.heap.size w w9) := HB8.out.trans (hb9.mono HB8.out.size)
          have HD9 : Hid (Duo w9 w8.heap.size c T) := ⟨hA9, HD8.out.rg.below hb9, HD8.out.ok, HD8.out.top⟩
          have hb9s : w.heap.size ≤ w8.heap.size := HB8.out.size
          have hnn := ptr_eq w8.heap.size 0
          generalize w8.heap.size = b9 at *
          clear hDe hA9 hb9 x0
          go_wp2
          go_roundw
          case rel => exact ⟨k + 1, b9, T, by omega, by omega, rfl, by go_num, HD9.out, HB9.out, hb9s⟩
          case measure => simp [intOf]; omega
        · go_wp2_with fail
          refine hE2.mono ?_
          rintro e w8 ⟨v8, rfl, hown8, hb8⟩
          obtain ⟨a8, k8, rfl, hk8, hrd8⟩ := own_rd hown8
          have HB8 : Hid (Below w.heap.size w w8) := HB7.out.trans (hb8.mono HB7.out.size)
          have HD8 : Hid (Duo w8 b c T) := HD7.out.below hb8
          have hDe := HDec.out w8 a8 k8 (by rw [← HElE.out]; exact hk8) hrd8
          rw [HElE.out]
          clear hE2 hown8 hrd8 hb8 hk8
          go_wp2_with fail
          refine hDe.mono ?_
          rintro e w9 ⟨rfl, hA9, hb9⟩
          have HB9 : Hid (Below w.heap.size w w9) := HB8.out.trans (hb9.mono HB8.out.size)
          have HD9 : Hid (Duo w9 w8.heap.size c T) := ⟨hA9, HD8.out.rg.below hb9, HD8.out.ok, HD8.out.top⟩
          have hb9s : w.heap.size ≤ w8.heap.size := HB8.out.size
          have hnn := ptr_eq w8.heap.size 0
          generalize w8.heap.size = b9 at *
          clear hDe hA9 hb9 x0
          go_wp2
          go_roundw
          case rel => exact ⟨k + 1, b9, T, by omega, by omega, rfl, by go_num, HD9.out, HB9.out, hb9s⟩
          case measure => simp [intOf]; omega
        · clear hE2
          go_wp2
          go_roundw
          case rel => exact ⟨k + 1, b, T, by omega, by omega, rfl, by go_num, HD7.out, HB7.out, hbb⟩
          case measure => simp [intOf]; omega
    · have HB : Hid (Below w.heap.size w wr) := hB
      clear hD hB hdeeds
      have hkl : k < len ∨ len ≤ k := by omega
      rcases hkl with hkl | hkl
      · have g0 : decide ((k : Int) < (len : Int)) = true := decide_eq_true (by omega)
        have g1 : decide ((k : Int) < 150) = false := decide_eq_false (by omega)
        go_wp2_with fail
        refine (awake_at _).mono ?_
        rintro x w2 ⟨rfl, hb2⟩
        go_wp2
        go_ret
        exact ⟨rfl, HB.out.trans (hb2.mono HB.out.size)⟩
      · have g0 : decide ((k : Int) < (len : Int)) = false := decide_eq_false (by omega)
        go_wp2_with fail
        refine (awake_at _).mono ?_
        rintro x w2 ⟨rfl, hb2⟩
        go_wp2
        go_ret
        exact ⟨rfl, HB.out.trans (hb2.mono HB.out.size)⟩
end Go.Proofs.Ytliifpknkdjgjaa
