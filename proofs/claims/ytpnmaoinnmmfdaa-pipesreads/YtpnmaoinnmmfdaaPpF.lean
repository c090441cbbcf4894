/- Package pipes: appendBytes. -/
import Derived.Test.YtpnmaoinnmmfdaaPpE
namespace Go.Proofs.Ytpnmaoinnmmfdaa
open Go.RowKit Go.Lib
set_option linter.unusedVariables false

theorem nums_take {l : List UInt8} {k : Nat} (h : k < l.length) : nums (l.take (k + 1)) = nums (l.take k) ++ [byt l k] := by
  rw [take_snoc (List.getElem?_eq_getElem h), nums_app, byt_get (List.getElem?_eq_getElem h)]
  rfl
set_option maxRecDepth 100000 in
set_option maxHeartbeats 4000000 in
theorem appendBytes_at (B n c g cp : Nat) (a : Option Addr) (D : List Int) (l : List UInt8) (w : World) (ho : w.ownsRow B 67 1 (.slice a n c) D.length (uvs D)) (hn : D.length = n) (hB : B ≤ w.heap.size) (hD : n ≤ 1000) (hbt : Bt w g l) (hl : l.length ≤ 8) :
    Calls Try.prog 31 #[.slice a n c, .slice (some ⟨g, 0, none⟩) l.length cp] w fun x w' => ∃ a' n' c', x = .returned (.slice a' n' c') ∧ n' = (D ++ (l.length : Int) :: nums l).length ∧ w'.ownsRow B 67 1 (.slice a' n' c') (D ++ (l.length : Int) :: nums l).length (uvs (D ++ (l.length : Int) :: nums l)) ∧ UW B w w' := by
  generalize hL : l.length = L at *
  have hwl : IntKind.u64.wrap (L : Int) = (L : Int) := by simp [IntKind.wrap, IntKind.bits, IntKind.signed]; omega
  obtain ⟨a1, c1, w1, hrun, hown, hU⟩ := app1 ho hn hB (by omega) (L : Int)
  have HRun : Hid _ := hrun
  have HLl : Hid (l.length = L) := hL
  have HO1 : Hid (w1.ownsRow B 67 1 (.slice a1 (n + 1) c1) (D ++ (L : Int) :: nums (l.take 0)).length (uvs (D ++ (L : Int) :: nums (l.take 0)))) := hown
  have HBt : Hid (Bt w g l) := hbt
  have HU : Hid (UW B w w1) := hU
  have HN : Hid (D.length = n) := hn
  clear hrun hown hbt hU hL ho hn
  go_enter Try.func31, Try.ntmps31
  go_wp2_with (at_builtin; refine wpList_append_eq rfl _ _ _ rfl _ _ _ rfl rfl HRun.out ?_)
  clear HRun
  go_loopw [0, 15] (fun s i wr => ∃ (k : Nat) (ak : Option Addr) (ck nk : Nat), k ≤ L ∧ i = .int .i64 k ∧ .slice ak nk ck = s ∧ nk = n + 1 + k ∧ wr.ownsRow B 67 1 (.slice ak nk ck) (D ++ (L : Int) :: nums (l.take k)).length (uvs (D ++ (L : Int) :: nums (l.take k))) ∧ UW B w wr) (fun _ i _ => L - (intOf i).toNat)
  case atStart => exact ⟨0, a1, c1, n + 1, by omega, rfl, rfl, rfl, HO1.out, HU.out⟩
  case round =>
    clear HO1 HU
    obtain ⟨k, ak, ck, nk, hk, rfl, rfl, hnk, hown, hU⟩ := hrel
    have HU : Hid (UW B w wr) := hU
    have HNk : Hid (nk = n + 1 + k) := hnk
    by_cases hlt : k < L
    · have g0 : decide ((k : Int) < (L : Int)) = true := decide_eq_true (by omega)
      have hki : (k : Int) < (L : Int) := by omega
      have hkl : k < l.length := by rw [HLl.out]; exact hlt
      have c0 := (hU.bt HBt.out).cell hkl
      have hb := byt_le l k
      have hwb : IntKind.u64.wrap (byt l k) = byt l k := by
        obtain ⟨h1, h2⟩ := hb
        simp [IntKind.wrap, IntKind.bits, IntKind.signed]
        omega
      have hlen : (D ++ (L : Int) :: nums (l.take k)).length = nk := by
        rw [List.length_append, List.length_cons, nums_len, List.length_take, HN.out, HLl.out, hnk]
        omega
      have hsz := Nat.le_trans hB hU.bel.size
      obtain ⟨a2, c2, w2, hrun, hown2, hU2⟩ := app1 hown hlen hsz (by omega) (byt l k)
      have hT : (D ++ (L : Int) :: nums (l.take k)) ++ [byt l k] = D ++ (L : Int) :: nums (l.take (k + 1)) := by rw [nums_take hkl]; simp
      rw [hT] at hown2
      have HRun : Hid _ := hrun
      have HO2 : Hid (w2.ownsRow B 67 1 (.slice a2 (nk + 1) c2) (D ++ (L : Int) :: nums (l.take (k + 1))).length (uvs (D ++ (L : Int) :: nums (l.take (k + 1))))) := hown2
      have HU2 : Hid (UW B w w2) := hU.trans hU2
      generalize byt l k = z at *
      clear hrun hown2 hU2 hT hlen hown hU hb hkl hnk
      go_wp2_with (at_builtin; refine wpList_append_eq rfl _ _ _ rfl _ _ _ rfl rfl HRun.out ?_)
      go_roundw
      case rel => exact ⟨k + 1, a2, c2, nk + 1, by omega, by go_num, rfl, by have := HNk.out; omega, HO2.out, HU2.out⟩
      case measure => simp [intOf]; omega
    · obtain rfl : k = L := by omega
      have g0 : decide ((k : Int) < (k : Int)) = false := decide_eq_false (by omega)
      have hTk : l.take k = l := by rw [← HLl.out, List.take_length]
      rw [hTk] at hown
      have HO : Hid (wr.ownsRow B 67 1 (.slice ak nk ck) (D ++ (k : Int) :: nums l).length (uvs (D ++ (k : Int) :: nums l))) := hown
      clear hown hU hnk hTk
      go_wp2
      go_ret
      refine ⟨ak, nk, ck, rfl, ?_, HO.out, HU.out⟩
      rw [List.length_append, List.length_cons, nums_len, HN.out, HLl.out, HNk.out]
      omega
end Go.Proofs.Ytpnmaoinnmmfdaa
