/- The kernel of blocks: Get, Put, Disk, Sync. -/
import Derived.Test.YtfnafjddajgahabXdC
import Derived.Deep.QuietTactic
import Derived.BigQuiet
namespace Go.Proofs.Ytfnafjddajgahab
open Go.RowKit Ca
set_option linter.unusedVariables false

def getRr (T : Tab) (e s b : Int) : Int := if mayX T e s b 1 = true then 0 else 104
def getWw (T : Tab) (l : Lines) (vs : List Int) (e s b : Int) : List Int := if mayX T e s b 1 = true then lookW l vs b.toNat else []
def getLl (T : Tab) (l : Lines) (vs : List Int) (e s b : Int) : Lines := if mayX T e s b 1 = true then getL l vs b.toNat else l
def putRr (T : Tab) (e s b : Int) (k : Nat) : Int := if mayX T e s b 2 = true then (if k = 32 then 0 else 101) else 104
def putLl (T : Tab) (l : Lines) (e s b : Int) (ws : List Int) : Lines := if mayX T e s b 2 = true then (if ws.length = 32 then putL l b.toNat ws else l) else l
def diskW (n : Nat) (vs : List Int) (b : Int) : List Int := if 0 ≤ b ∧ b < n then frameOf vs b.toNat else []

section
variable {w w' : World} {K : Nat} {Y : Yd} {n m : Nat} {vs : List Int} {l : Lines} {T : Tab}
theorem xget_at (h : KAt w K Y n m vs l T) (e s b : Int) (hb : I64 b) (hm : m ≤ 900000) :
    Calls Try.prog 15 #[ptr K, .int .i64 e, .int .i64 s, .int .i64 b] w fun x w' => ∃ v, x = .returned (.tuple #[v, .int .i64 (getRr T e s b)]) ∧ URow w.heap.size w' v (getWw T l vs e s b) ∧ KAt w' K Y n (m + 1) vs (getLl T l vs e s b) T ∧ UpdP (XFoot Y) w w' := by
  have hM := xmay_at h e s b 1 hb
  have HH : Hid _ := h
  cases hq : mayX T e s b 1 with
  | false =>
    rw [hq] at hM
    have HA : Hid (getRr T e s b = 104 ∧ getWw T l vs e s b = [] ∧ getLl T l vs e s b = l) := by
      show _ ∧ _
      simp [getRr, getWw, getLl, hq]
    clear hq h
    generalize getRr T e s b = R at *
    go_enter Try.func15, Try.ntmps15
    go_wp2_with (go_at_call 29; refine hM.mono ?_; rintro x w1 ⟨rfl, hb1⟩)
    go_ret2
    refine ⟨_, by rw [HA.out.1]; rfl, by rw [HA.out.2.1]; exact URow.nil _ _, by rw [HA.out.2.2]; exact (HH.out.below hb1).mono (by omega), UpdP.of_below hb1⟩
  | true =>
    rw [hq] at hM
    obtain ⟨b0, b1⟩ := mayX_in h.inv hq
    obtain ⟨b, rfl⟩ := nat_of b b0
    have HA : Hid (getRr T e s b = 0 ∧ getWw T l vs e s b = lookW l vs b ∧ getLl T l vs e s b = getL l vs b) := by
      show _ ∧ _
      simp [getRr, getWw, getLl, hq]
    have hbn : b < n := by omega
    clear hq h b0 b1 hb
    generalize getRr T e s b = R at *
    go_enter Try.func15, Try.ntmps15
    go_wp2_with (first | (go_at_call 29; refine hM.mono ?_; rintro x w1 ⟨rfl, hb1⟩) | fail)
    refine (xcget_at (HH.out.below hb1) b hbn hm).mono ?_
    rintro x w2 ⟨gg, cap, rfl, hr2, hK2, hu2⟩
    have HR : Hid _ := hr2
    have HK : Hid _ := hK2
    have HU : Hid (UpdP (XFoot Y) w w2) := (UpdP.of_below hb1).trans hu2
    have HS : Hid _ := hb1.size
    clear hr2 hK2 hu2
    go_wp2
    go_ret2
    exact ⟨_, by rw [HA.out.1]; rfl, by rw [HA.out.2.1]; exact URow.mono HR.out HS.out, by rw [HA.out.2.2]; exact HK.out, HU.out⟩

theorem xputR_at {v : Value} {ws : List Int} (h : KAt w K Y n m vs l T) (e s b : Int) (hb : I64 b) (hv : RdV w v ws) :
    Calls Try.prog 8 #[ptr K, .int .i64 e, .int .i64 s, .int .i64 b, v] w fun x w' => x = .returned (.int .i64 (putRr T e s b ws.length)) ∧ KAt w' K Y n m vs (putLl T l e s b ws) T ∧ UpdP (XFoot Y) w w' := by
  have hM := xmay_at h e s b 2 hb
  have HH : Hid _ := h
  have HV : Hid (RdV w v ws) := hv
  cases hq : mayX T e s b 2 with
  | false =>
    rw [hq] at hM
    have HA : Hid (putRr T e s b ws.length = 104 ∧ putLl T l e s b ws = l) := by
      show _ ∧ _
      simp [putRr, putLl, hq]
    clear hq h hv
    generalize putRr T e s b ws.length = R at *
    go_enter Try.func8, Try.ntmps8
    go_wp2_with (go_at_call 29; refine hM.mono ?_; rintro x w1 ⟨rfl, hb1⟩)
    go_ret
    exact ⟨by rw [HA.out.1]; rfl, by rw [HA.out.2]; exact HH.out.below hb1, UpdP.of_below hb1⟩
  | true =>
    rw [hq] at hM
    obtain ⟨b0, b1⟩ := mayX_in h.inv hq
    obtain ⟨b, rfl⟩ := nat_of b b0
    have hbn : b < n := by omega
    by_cases hl : ws.length = 32
    · have HA : Hid (putRr T e s b ws.length = 0 ∧ putLl T l e s b ws = putL l b ws) := by
        show _ ∧ _
        simp [putRr, putLl, hq, hl]
      have HL : Hid _ := hl
      clear hq h b0 b1 hb hl hv
      generalize putRr T e s b ws.length = R at *
      go_enter Try.func8, Try.ntmps8
      go_wp2_with (first | (go_at_call 29; refine hM.mono ?_; rintro x w1 ⟨rfl, hb1⟩) | fail)
      refine (xcputR_at (HH.out.below hb1) b hbn (RdV.below HV.out hb1) HL.out).mono ?_
      rintro x w2 ⟨rfl, hK2, hu2⟩
      have HK : Hid _ := hK2
      have HU : Hid (UpdP (XFoot Y) w w2) := (UpdP.of_below hb1).trans hu2
      clear hK2 hu2
      go_wp2
      go_ret
      exact ⟨by rw [HA.out.1]; rfl, by rw [HA.out.2]; exact HK.out, HU.out⟩
    · have HA : Hid (putRr T e s b ws.length = 101 ∧ putLl T l e s b ws = l) := by
        show _ ∧ _
        simp [putRr, putLl, hq, hl]
      obtain ⟨a, cap, rfl, _⟩ := hv
      have HL : Hid _ := hl
      clear hq h b0 b1 hb hl HV
      generalize putRr T e s b ws.length = R at *
      go_enter Try.func8, Try.ntmps8
      go_wp2_with (first | (go_at_call 29; refine hM.mono ?_; rintro x w1 ⟨rfl, hb1⟩) | fail)
      refine (xcput_no (HH.out.below hb1) b a ws.length cap HL.out).mono ?_
      rintro x w2 ⟨rfl, rfl⟩
      go_wp2
      go_ret
      exact ⟨by rw [HA.out.1]; rfl, by rw [HA.out.2]; exact HH.out.below hb1, UpdP.of_below hb1⟩

theorem xput_at {M : Nat} {v : Value} {ws : List Int} (h : KAt w K Y n m vs l T) (e s b : Int) (hb : I64 b) (hv : URow M w v ws) :
    Calls Try.prog 8 #[ptr K, .int .i64 e, .int .i64 s, .int .i64 b, v] w fun x w' => x = .returned (.int .i64 (putRr T e s b ws.length)) ∧ KAt w' K Y n m vs (putLl T l e s b ws) T ∧ UpdP (XFoot Y) w w' := xputR_at h e s b hb hv.rdv

theorem sto_nil (b : Nat) (W : World) : (binOp BinOp.eql 54 (sto b) .nilIface).run Try.prog W = .ok (.bool false) W := by kernel_rfl
set_option maxRecDepth 100000 in
set_option maxHeartbeats 1000000 in
theorem xdisk_at (h : KAt w K Y n m vs l T) (b : Int) (hm : m ≤ 900000) :
    Calls Try.prog 12 #[ptr K, .int .i64 b] w fun x w' => ∃ v, x = .returned v ∧ URow w.heap.size w' v (diskW n vs b) ∧ KAt w' K Y n (m + 1) vs l T ∧ UpdP (XFoot Y) w w' := by
  have k0 := h.k0
  have HH : Hid _ := h
  obtain ⟨gt, pt, hd, hgt, hpt⟩ := h.disk
  have hme := meth_get Y.b
  have hni := sto_nil Y.b
  by_cases hb : 0 ≤ b ∧ b < n
  · have hget := Di.get_at Y.b Y.g n vs gt pt b w hd hb.1 hb.2 (by omega)
    have HW : Hid (diskW n vs b = frameOf vs b.toNat) := by show _ = _; unfold diskW; rw [if_pos hb]
    clear h hb hd
    go_enter Try.func12, Try.ntmps12
    go_wp2_with fail
    refine hget.mono ?_
    rintro x w1 ⟨g1, rfl, hr1, hd1, hu1⟩
    have HK1 : Hid _ := HH.out.updD (m' := m + 1) hd1 (by omega) (by omega) (hu1.p _ (Or.inl rfl))
    have HR1 : Hid _ := hr1
    have HU1 : Hid _ := updB hu1
    clear hr1 hd1 hu1 hget
    go_wp2
    go_ret
    exact ⟨_, rfl, by rw [HW.out]; exact HR1.out, HK1.out, HU1.out⟩
  · have hget := Di.getno_at Y.b Y.g n vs gt pt b w hd hb
    have HW : Hid (diskW n vs b = []) := by show _ = _; unfold diskW; rw [if_neg hb]
    clear h hb hd
    go_enter Try.func12, Try.ntmps12
    go_wp2_with fail
    refine hget.mono ?_
    rintro x w1 ⟨rfl, rfl⟩
    go_wp2
    go_ret
    exact ⟨_, rfl, by rw [HW.out]; exact URow.nil _ _, HH.out.mono (by omega), UpdP.refl _ _⟩
end
end Go.Proofs.Ytfnafjddajgahab
