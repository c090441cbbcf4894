/- Package pipes: Encode. -/
import Derived.Test.YtpnmaoinnmmfdaaPpF
namespace Go.Proofs.Ytpnmaoinnmmfdaa
open Go.RowKit Go.Lib
set_option linter.unusedVariables false

theorem encode_nil (w : World) :
    Calls Try.prog 18 #[.pointer none] w fun x w' => x = .returned (.slice none 0 0) ∧ w' = w := by
  go_enter Try.func18, Try.ntmps18
  go_wp2
  go_ret
  exact ⟨rfl, rfl⟩
set_option maxRecDepth 100000 in
set_option maxHeartbeats 8000000 in
theorem encode_at (b : Nat) (S : PS) (w : World) (h : PpAt w b S) :
    Calls Try.prog 18 #[.pointer (some ⟨b, 0, none⟩)] w fun x w' => ∃ v, x = .returned v ∧ w'.ownsRow w.heap.size 67 1 v (encS S).length (uvs (encS S)) ∧ Below w.heap.size w w' := by
  have HF : Hid (Fit8 S) := h.fits
  obtain ⟨row, hP, hR⟩ := h
  have hne := ptr_eq b
  have HL : Hid (w.rangeAt b 0 (mvs S)) := mvs_range hP hR
  have HP : Hid (PB w b row) := hP
  have HR : Hid (PpR row S) := hR
  have hll : (mvs S).length = 16 := mvs_len S
  clear hP hR
  go_enter Try.func18, Try.ntmps18
  go_wp2_with (first | (refine wpList_load_mid rfl 26 _ rfl b 0 rfl (mvs S) _ HL.out Try.underlying26 rfl (by rw [hll]; exact bools16) ?_) | go_in)
  clear HL hll
  go_loopw [3, 12] (fun s i wr => ∃ (k : Nat) (ak : Option Addr) (nk ck : Nat), k ≤ 16 ∧ i = .int .i64 k ∧ .slice ak nk ck = s ∧ nk = (encK S k).length ∧ wr.ownsRow w.heap.size 67 1 (.slice ak nk ck) (encK S k).length (uvs (encK S k)) ∧ UW w.heap.size w wr) (fun _ i _ => 16 - (intOf i).toNat)
  case atStart => exact ⟨0, none, 0, 0, by omega, rfl, rfl, rfl, World.ownsRow_nil w _ _ 1, UW.refl _ _⟩
  case round =>
    obtain ⟨k, ak, nk, ck, hk, rfl, rfl, hnk, hown, hU⟩ := hrel
    have HU : Hid (UW w.heap.size w wr) := hU
    by_cases hlt : k < 16
    · have i1 : decide ((k : Int) < 16) = true := decide_eq_true (by omega)
      have hki : (k : Int) < 16 := by omega
      have hix := made_index S k hlt
      have hel := encK_len HF.out k (by omega)
      cases hs : S k with
      | none =>
        rw [hs] at hix
        dsimp only [Option.isSome] at hix
        have HE : Hid (encK S (k + 1) = encK S k ++ [0]) := by show _ = _; simp only [encK]; rw [hs]; rfl
        obtain ⟨a2, c2, w2, hrun, hown2, hU2⟩ := app1 hown hnk.symm hU.bel.size (by omega) 0
        rw [← HE.out] at hown2
        have HRun : Hid _ := hrun
        have HO2 : Hid (w2.ownsRow w.heap.size 67 1 (.slice a2 (nk + 1) c2) (encK S (k + 1)).length (uvs (encK S (k + 1)))) := hown2
        have HU2 : Hid (UW w.heap.size w w2) := hU.trans hU2
        have HN : Hid (nk + 1 = (encK S (k + 1)).length) := by show _ = _; rw [HE.out, List.length_append, ← hnk]; rfl
        clear hrun hown2 hU2 hs hown hU hnk hel HE
        go_wp2_with (at_builtin; refine wpList_append_eq rfl _ _ _ rfl _ _ _ rfl rfl HRun.out ?_)
        go_roundw
        case rel => exact ⟨k + 1, a2, nk + 1, c2, by omega, by go_num, rfl, HN.out, HO2.out, HU2.out⟩
        case measure => simp [intOf]; omega
      | some l =>
        rw [hs] at hix
        dsimp only [Option.isSome] at hix
        have hl8 := HF.out k l hlt hs
        obtain ⟨e, hr⟩ := HR.out.ring k hlt
        rw [hs] at hr
        have HRg : Hid (Ring row (16 + k * 17) e l) := hr
        have HE : Hid (encK S (k + 1) = (encK S k ++ [1]) ++ (l.length : Int) :: nums l) := by show _ = _; simp only [encK]; rw [hs]; simp [encO]
        obtain ⟨a2, c2, w2, hrun, hown2, hU2⟩ := app1 hown hnk.symm hU.bel.size (by omega) 1
        have HRun : Hid _ := hrun
        have hn2 : (encK S k ++ [1]).length = nk + 1 := by rw [List.length_append, ← hnk]; rfl
        have HO2 : Hid (w2.ownsRow w.heap.size 67 1 (.slice a2 (nk + 1) c2) (encK S k ++ [1]).length (uvs (encK S k ++ [1]))) := hown2
        have HU2 : Hid (UW w.heap.size w w2) := hU.trans hU2
        have hBy := bytes_at b (16 + k * 17) e l row w2 (HU2.out.pb HP.out) hr
        have HN2 : Hid ((encK S k ++ [1]).length = nk + 1) := hn2
        have hnk9 : nk ≤ 160 := by omega
        clear hrun hown2 hU2 hs hown hU hr hnk hn2 hel
        generalize hLL : l.length = ll at *
        have HLl : Hid (l.length = ll) := hLL
        clear hLL
        go_wp2_with (first | (at_builtin; refine wpList_append_eq rfl _ _ _ rfl _ _ _ rfl rfl HRun.out ?_) | fail)
        refine hBy.mono ?_
        rintro x w3 ⟨g, rfl, hg, hbt, hb3⟩
        have hU3 : UW w.heap.size w2 w3 := UW.of_below HU2.out.bel.size hb3
        have hO3 := ownsRow_below HO2.out hb3
        have hAp := appendBytes_at w.heap.size (nk + 1) c2 g l.length a2 (encK S k ++ [1]) l w3 hO3 HN2.out (HU2.out.trans hU3).bel.size (by omega) hbt (by rw [HLl.out]; exact hl8)
        rw [HLl.out, ← HE.out] at hAp
        have HU3 : Hid (UW w.heap.size w w3) := HU2.out.trans hU3
        clear hbt hb3 hO3 hBy hU3 hg HU2 HO2 HRun
        go_wp2_with fail
        refine hAp.mono ?_
        rintro x w4 ⟨a4, n4, c4, rfl, hn4, hown4, hU4⟩
        have HN4 : Hid (n4 = (encK S (k + 1)).length) := hn4
        have HO4 : Hid (w4.ownsRow w.heap.size 67 1 (.slice a4 n4 c4) (encK S (k + 1)).length (uvs (encK S (k + 1)))) := hown4
        have HU4 : Hid (UW w.heap.size w w4) := HU3.out.trans hU4
        clear hn4 hown4 hU4 hAp HE
        go_wp2
        go_roundw
        case rel => exact ⟨k + 1, a4, n4, c4, by omega, by go_num, rfl, HN4.out, HO4.out, HU4.out⟩
        case measure => simp [intOf]; omega
    · have i1 : decide ((k : Int) < 16) = false := decide_eq_false (by omega)
      have hk16 : k = 16 := by omega
      rw [hk16] at hown
      have HO : Hid (wr.ownsRow w.heap.size 67 1 (.slice ak nk ck) (encS S).length (uvs (encS S))) := hown
      clear hown hU hnk hk16
      go_wp2
      go_ret
      exact ⟨_, rfl, HO.out, HU.out.bel⟩
end Go.Proofs.Ytpnmaoinnmmfdaa
