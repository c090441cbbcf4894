/- The reference of package pipes: Encode; janusref01.Words of any words. -/
import Derived.Test.YtpnmaoinnmmfdaaRpA
namespace Go.Proofs.Ytpnmaoinnmmfdaa
open Go.RowKit Go.Lib
set_option linter.unusedVariables false

theorem UW.rb {B : Nat} {w w' : World} (h : UW B w w') {b : Nat} {row : Array Value} (hb : RB w b row) : RB w' b row := hb.keep (h.oth b _ _ _ hb (by decide))
set_option maxRecDepth 100000 in
set_option maxHeartbeats 8000000 in
theorem xencode_at (b : Nat) (S : PS) (w : World) (h : RpAt w b S) (hF : Fit8 S) :
    Calls Try.prog 22 #[.pointer (some ⟨b, 0, none⟩)] w fun x w' => ∃ v, x = .returned v ∧ w'.ownsRow w.heap.size 67 1 v (encS S).length (uvs (encS S)) ∧ Below w.heap.size w w' := by
  have HF : Hid (Fit8 S) := hF
  obtain ⟨row, hP, hR⟩ := h
  have HP : Hid (RB w b row) := hP
  have HR : Hid (RpR row S) := hR
  clear hP hR hF
  go_enter Try.func22, Try.ntmps22
  go_wp2
  go_loopw [3, 4] (fun s i wr => ∃ (k : Nat) (ak : Option Addr) (nk ck : Nat), k ≤ 16 ∧ i = .int .i64 k ∧ .slice ak nk ck = s ∧ nk = (encK S k).length ∧ wr.ownsRow w.heap.size 67 1 (.slice ak nk ck) (encK S k).length (uvs (encK S k)) ∧ UW w.heap.size w wr) (fun _ i _ => 16 - (intOf i).toNat)
  case atStart => exact ⟨0, none, 0, 0, by omega, rfl, rfl, rfl, World.ownsRow_nil w _ _ 1, UW.refl _ _⟩
  case round =>
    obtain ⟨k, ak, nk, ck, hk, rfl, rfl, hnk, hown, hU⟩ := hrel
    have HU : Hid (UW w.heap.size w wr) := hU
    by_cases hlt : k < 16
    · have i1 : decide ((k : Int) < 16) = true := decide_eq_true (by omega)
      have hki : (k : Int) < 16 := by omega
      have hel := encK_len HF.out k (by omega)
      have hPr := HU.out.rb HP.out
      have c0 := (hPr.cell k).trans (HR.out.made k hlt)
      have c1 := (hPr.cell (16 + k)).trans (HR.out.txt k hlt)
      cases hs : S k with
      | none =>
        rw [hs] at c0
        dsimp only [Option.isSome] at c0
        have HE : Hid (encK S (k + 1) = encK S k ++ [0]) := by show _ = _; simp only [encK]; rw [hs]; rfl
        obtain ⟨a2, c2, w2, hrun, hown2, hU2⟩ := app1 hown hnk.symm hU.bel.size (by omega) 0
        rw [← HE.out] at hown2
        have HRun : Hid _ := hrun
        have HO2 : Hid (w2.ownsRow w.heap.size 67 1 (.slice a2 (nk + 1) c2) (encK S (k + 1)).length (uvs (encK S (k + 1)))) := hown2
        have HU2 : Hid (UW w.heap.size w w2) := hU.trans hU2
        have HN : Hid (nk + 1 = (encK S (k + 1)).length) := by show _ = _; rw [HE.out, List.length_append, ← hnk]; rfl
        clear hrun hown2 hU2 hs hown hU hnk hel HE hPr c1
        go_wp2_with (at_builtin; refine wpList_append_eq rfl _ _ _ rfl _ _ _ rfl rfl HRun.out ?_)
        go_roundw
        case rel => exact ⟨k + 1, a2, nk + 1, c2, by omega, by go_num, rfl, HN.out, HO2.out, HU2.out⟩
        case measure => simp [intOf]; omega
      | some l =>
        rw [hs] at c0 c1
        dsimp only [Option.isSome, Option.getD] at c0 c1
        have hl8 := HF.out k l hlt hs
        have HSk : Hid (S k = some l) := hs
        have HE : Hid (encK S (k + 1) = (encK S k ++ [1, (l.length : Int)]) ++ nums l) := by show _ = _; simp only [encK]; rw [hs]; simp [encO]
        obtain ⟨a2, c2, w2, hrun, hown2, hU2⟩ := app2 hown hnk.symm hU.bel.size (by omega) 1 (l.length : Int)
        have hn2 : (encK S k ++ [1, (l.length : Int)]).length = nk + 2 := by rw [List.length_append, ← hnk]; rfl
        have HRun : Hid _ := hrun
        have HO2 : Hid (w2.ownsRow w.heap.size 67 1 (.slice a2 (nk + 2) c2) ((encK S k ++ [1, (l.length : Int)]) ++ nums (l.take 0)).length (uvs ((encK S k ++ [1, (l.length : Int)]) ++ nums (l.take 0)))) := by
          have : nums (l.take 0) = [] := rfl
          rw [this, List.append_nil]
          exact hown2
        have HU2 : Hid (UW w.heap.size w w2) := hU.trans hU2
        have HN2 : Hid ((encK S k ++ [1, (l.length : Int)]).length = nk + 2) := hn2
        have hszl : (ByteArray.mk l.toArray).size = l.length := by simp [ByteArray.size]
        have hwl : IntKind.u64.wrap (l.length : Int) = (l.length : Int) := by simp [IntKind.wrap, IntKind.bits, IntKind.signed]; omega
        have hnk9 : nk ≤ 160 := by omega
        generalize hV : encK S k ++ [1, (l.length : Int)] = V at *
        clear hrun hown2 hU2 hs hown hU hnk hn2 hel hPr hV
        go_wp2_with (at_builtin; refine wpList_append_eq rfl _ _ _ rfl _ _ _ rfl rfl HRun.out ?_)
        clear HRun c0 c1
        generalize hwx : wr = wq at *
        clear hwx
        go_loopw [3, 5] (fun s i wr => ∃ (j : Nat) (aj : Option Addr) (nj cj : Nat), j ≤ l.length ∧ i = .int .i64 j ∧ .slice aj nj cj = s ∧ nj = nk + 2 + j ∧ wr.ownsRow w.heap.size 67 1 (.slice aj nj cj) (V ++ nums (l.take j)).length (uvs (V ++ nums (l.take j))) ∧ UW w.heap.size w wr) (fun _ i _ => l.length - (intOf i).toNat)
        case atStart => exact ⟨0, a2, nk + 2, c2, by omega, rfl, rfl, rfl, HO2.out, HU2.out⟩
        case round =>
          clear HO2 HU2
          obtain ⟨j, aj, nj, cj, hj, rfl, rfl, hnj, hown, hU⟩ := hrel
          have HU : Hid (UW w.heap.size w wr) := hU
          have HNj : Hid (nj = nk + 2 + j) := hnj
          have hPr := hU.rb HP.out
          have c1 := (hPr.cell (16 + k)).trans (HR.out.txt k hlt)
          rw [HSk.out] at c1
          dsimp only [Option.getD] at c1
          by_cases hlj : j < l.length
          · have j1 : decide ((j : Int) < (l.length : Int)) = true := decide_eq_true (by omega)
            have hix := tx_index l j hlj
            have hb := byt_le l j
            have hwb : IntKind.u64.wrap (byt l j) = byt l j := by
              obtain ⟨h1, h2⟩ := hb
              simp [IntKind.wrap, IntKind.bits, IntKind.signed]
              omega
            have hlen : (V ++ nums (l.take j)).length = nj := by
              rw [List.length_append, HN2.out, nums_len, List.length_take, hnj]
              omega
            obtain ⟨a3, c3, w3, hrun, hown3, hU3⟩ := app1 hown hlen hU.bel.size (by omega) (byt l j)
            have hT : (V ++ nums (l.take j)) ++ [byt l j] = V ++ nums (l.take (j + 1)) := by rw [nums_take hlj, List.append_assoc]
            rw [hT] at hown3
            have HRun : Hid _ := hrun
            have HO3 : Hid (w3.ownsRow w.heap.size 67 1 (.slice a3 (nj + 1) c3) (V ++ nums (l.take (j + 1))).length (uvs (V ++ nums (l.take (j + 1))))) := hown3
            have HU3 : Hid (UW w.heap.size w w3) := hU.trans hU3
            generalize byt l j = z at *
            clear hrun hown3 hU3 hT hlen hown hU hb hnj hPr
            go_wp2_with (at_builtin; refine wpList_append_eq rfl _ _ _ rfl _ _ _ rfl rfl HRun.out ?_)
            go_roundw
            case rel => exact ⟨j + 1, a3, nj + 1, c3, by omega, by go_num, rfl, by have := HNj.out; omega, HO3.out, HU3.out⟩
            case measure => simp [intOf]; omega
          · have hjl : j = l.length := by omega
            have j1 : decide ((j : Int) < (l.length : Int)) = false := decide_eq_false (by omega)
            have hTk : l.take j = l := by rw [hjl, List.take_length]
            rw [hTk, ← HE.out] at hown
            have HO : Hid (wr.ownsRow w.heap.size 67 1 (.slice aj nj cj) (encK S (k + 1)).length (uvs (encK S (k + 1)))) := hown
            have HN : Hid (nj = (encK S (k + 1)).length) := by show _ = _; rw [HE.out, List.length_append, HN2.out, nums_len, hnj, hjl]
            clear hown hU hnj hTk hPr hjl
            go_wp2
            go_roundw
            case rel => exact ⟨k + 1, aj, nj, cj, by omega, by go_num, rfl, HN.out, HO.out, HU.out⟩
            case measure => simp [intOf]; omega
    · have i1 : decide ((k : Int) < 16) = false := decide_eq_false (by omega)
      have hk16 : k = 16 := by omega
      rw [hk16] at hown
      have HO : Hid (wr.ownsRow w.heap.size 67 1 (.slice ak nk ck) (encS S).length (uvs (encS S))) := hown
      clear hown hU hnk hk16
      go_wp2
      go_ret
      exact ⟨_, rfl, HO.out, HU.out.bel⟩

set_option maxHeartbeats 2000000 in
theorem words_any (D E : List Int) (a b : Option Addr) (ca cb : Nat) (w : World) (ha : Rd w a D) (hb : Rd w b E) (hl : D.length ≤ 1000000) (hl2 : E.length ≤ 1000000) :
    Calls Try.prog 21 #[.slice a D.length ca, .slice b E.length cb] w fun e w' => e = .returned (.bool (decide (D = E))) ∧ Below w.heap.size w w' := by
  by_cases hle : D.length = E.length
  · have HLE : Hid (D.length = E.length) := hle
    rw [← hle]
    have HA : Hid _ := ha
    have HB : Hid _ := hb
    clear ha hb hle hl2
    go_enter Try.func21, Try.ntmps21
    go_wp2
    go_loopw [5] (fun s wr => ∃ (k : Nat), k ≤ D.length ∧ s = .int .i64 k ∧ D.take k = E.take k ∧ Below w.heap.size w wr) (fun s _ => D.length - (intOf s).toNat)
    case atStart => exact ⟨0, by omega, rfl, rfl, Below.refl _ _⟩
    case round =>
      obtain ⟨k, hk, rfl, htk, hbw⟩ := hrel
      have HT : Hid (D.take k = E.take k) := htk
      clear htk
      by_cases hlt : k < D.length
      · obtain ⟨x, hx⟩ : ∃ x, D[k]? = some x := ⟨D[k], List.getElem?_eq_getElem hlt⟩
        obtain ⟨y, hy⟩ : ∃ y, E[k]? = some y := ⟨E[k]'(by rw [← HLE.out]; exact hlt), List.getElem?_eq_getElem _⟩
        obtain ⟨ga, oa, rfl, a0⟩ := (Rd.below HA.out hbw) k x hx
        obtain ⟨gb, ob, rfl, b0⟩ := (Rd.below HB.out hbw) k y hy
        have HX : Hid (D[k]? = some x) := hx
        have HY : Hid (E[k]? = some y) := hy
        clear hx hy
        by_cases hxy : x = y
        · have HT2 : Hid (D.take (k + 1) = E.take (k + 1)) := by
            show _ = _
            rw [List.take_add_one, List.take_add_one, HT.out, HX.out, HY.out, hxy]
          subst hxy
          go_wp2_with fail
          go_region
          all_goals
            go_wp2
            go_roundw
            case rel => exact ⟨k + 1, by omega, by go_num, HT2.out, hbw.drew⟩
            case measure => simp [intOf]; omega
        · have HN : Hid (decide (D = E) = false) := by
            refine decide_eq_false (fun e => ?_)
            have h1 := HX.out
            rw [e, HY.out] at h1
            exact hxy (Option.some.inj h1).symm
          have g0 : (x == y) = false := beq_false_of_ne hxy
          clear hxy
          go_wp2_with fail
          go_region
          all_goals
            go_wp2
            go_ret
            exact ⟨by rw [HN.out]; rfl, hbw.drew⟩
      · have hkd : k = D.length := by omega
        have HN : Hid (decide (D = E) = true) := by
          refine decide_eq_true ?_
          have h1 := HT.out
          rw [hkd, List.take_length, HLE.out, List.take_length] at h1
          exact h1
        have g0 : decide ((k : Int) < (D.length : Int)) = false := decide_eq_false (by omega)
        clear hkd
        go_wp2
        go_ret
        exact ⟨by rw [HN.out]; rfl, hbw⟩
  · have HN : Hid (decide (D = E) = false) := decide_eq_false (fun e => hle (by rw [e]))
    have g0 : ((D.length : Int) == (E.length : Int)) = false := beq_false_of_ne (by omega)
    clear ha hb hle
    go_enter Try.func21, Try.ntmps21
    go_wp2
    go_ret
    exact ⟨by rw [HN.out]; rfl, Below.refl _ _⟩
end Go.Proofs.Ytpnmaoinnmmfdaa
