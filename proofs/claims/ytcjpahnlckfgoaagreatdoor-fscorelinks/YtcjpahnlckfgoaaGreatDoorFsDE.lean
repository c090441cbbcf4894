/- Package fscore over a store: create, mkdir. -/
/- Package fscore over a store: slices.Contains, drop, unlink, link. -/
import Derived.Test.YtcjpahnlckfgoaaGreatDoorFsBC
namespace Go.Proofs.YtcjpahnlckfgoaaGreatDoor
open Go.RowKit
set_option linter.unusedVariables false

theorem fd_nat {F : FS} (hA : AllD F) {i : Int} {s : List UInt8} (h : ¬ fdR F i s < 0) : ∃ k : Nat, fdR F i s = (k : Int) ∧ k < 32 := by
  unfold fdR at h ⊢
  cases hd : isD F i with
  | false =>
    have e : dirL F i = [] := by unfold dirL; rw [hd]; rfl
    rw [e] at h
    have e2 : findE [] s = -1 := rfl
    omega
  | true =>
    obtain ⟨k, rfl, hk, hkk⟩ := isD_nat hd
    obtain ⟨l, hl⟩ := hA k hk hkk
    rw [hl.list hk] at h ⊢
    unfold findE at h ⊢
    by_cases q : placeE l s < l.length
    · rw [if_pos q]
      refine ⟨_, rfl, ?_⟩
      rw [List.getD_eq_getElem?_getD, List.getElem?_eq_getElem q]
      exact (hl.ok _ (List.getElem_mem q)).to
    · rw [if_neg q] at h
      omega
theorem pa_len {F : FS} {p : List UInt8} : (paR F p).2.1.length ≤ 33 := by
  have hsp : ∀ (cur l : List UInt8), ∀ x ∈ partsP cur l, x.length ≤ cur.length + l.length := by
    intro cur l
    induction l generalizing cur with
    | nil =>
      intro x hx
      unfold partsP at hx
      split at hx
      · cases hx
      · rw [List.mem_singleton.1 hx]; simp
    | cons b l ih =>
      intro x hx
      unfold partsP at hx
      split at hx
      · split at hx
        · have := ih [] x hx; simp at this ⊢; omega
        · rcases List.mem_cons.1 hx with rfl | hx
          · simp
          · have := ih [] x hx; simp at this ⊢; omega
      · have := ih (cur ++ [b]) x hx; simp at this ⊢; omega
  have h0 : ∀ k, ((splitP p).getD k []).length ≤ 33 := by
    intro k
    unfold splitP
    split
    · simp
    · split
      · simp
      · split
        · rename_i h1 h2 h3
          rw [List.getD_eq_getElem?_getD]
          cases hq : (partsP [] p)[k]? with
          | none => simp
          | some x =>
            have := hsp [] p x (List.mem_of_getElem? hq)
            simp at this ⊢
            omega
        · simp
  unfold paR
  split
  · split
    · simp
    · split
      · split
        · exact h0 _
        · simp
      · simp
  · simp
section
variable {w w' : World} {m : Nat} {B : Sto} {F : FS}
set_option maxHeartbeats 4000000 in
set_option maxRecDepth 100000 in
theorem fcreate_at (h : Fs w B F m) (hA : AllD F) (hm : m ≤ 600000000000) (p : List UInt8) (hp : p.length ≤ 9223372036854775807) :
    Calls Tryz.prog 56 #[sto B, tx p] w (Res B F.n (m + 250000) (crR F p) (crF F p) (.int .i64 (crI F p)) w) := by
  have hS := fspot_at h hA (by omega) p hp
  have HA : Hid (AllD F) := hA
  have HCr : Hid (crR F p = (if (paR F p).2.2 = 0 then (if fdR F (paR F p).1 (paR F p).2.1 < 0 then bnR F (paR F p).1 (paR F p).2.1 1 else if isD F (fdR F (paR F p).1 (paR F p).2.1) = true then 21 else 0) else (paR F p).2.2) ∧ crF F p = (if fdR F (paR F p).1 (paR F p).2.1 < 0 then bnF F (paR F p).1 (paR F p).2.1 1 else F) ∧ crI F p = (if fdR F (paR F p).1 (paR F p).2.1 < 0 then (alN F : Int) else fdR F (paR F p).1 (paR F p).2.1)) := ⟨rfl, rfl, rfl⟩
  have HLn : Hid ((paR F p).2.1.length ≤ 9223372036854775807) := by have := pa_len (F := F) (p := p); show _ ≤ _; omega
  clear h hA
  generalize crR F p = cr at *
  generalize crF F p = cf at *
  generalize crI F p = ci at *
  generalize (paR F p).1 = d at *
  generalize (paR F p).2.1 = s at *
  generalize (paR F p).2.2 = er at *
  go_enter Tryz.func56, Tryz.ntmps56
  go_wp2_with fail
  refine hS.mono ?_
  rintro e w1 (⟨h0, rfl, hf, hbg⟩ | ⟨h0, rfl, hdk, hbg⟩)
  · obtain ⟨hc1, hc2, hc3⟩ := HCr.out
    rw [if_pos h0] at hc1
    obtain ⟨W2, hW2⟩ : ∃ W, W = w1.alloc (.cells #[.int .i64 d, tx s] 180) := ⟨_, rfl⟩
    have hb2 : Below w1.heap.size w1 W2 := by rw [hW2]; exact below_alloc _ _
    have hr2 : W2.heap[w1.heap.size]? = some (.cells #[.int .i64 d, tx s] 180) := by rw [hW2]; exact heap_alloc_new _ _
    have hFi := ffind_at (hf.below hb2) HA.out (by omega) d s
    have HU2 : Hid (BG B w W2) := SU.trans hbg (SU.of_below hb2)
    have HW2 : Hid _ := hW2
    have HR2 : Hid (W2.heap[w1.heap.size]? = some (.cells #[.int .i64 d, tx s] 180)) := hr2
    obtain ⟨r, hr⟩ : ∃ r, r = w1.heap.size := ⟨_, rfl⟩
    have Hr : Hid (r = w1.heap.size) := hr
    have HC : Hid (cr = (if fdR F d s < 0 then bnR F d s 1 else if isD F (fdR F d s) = true then 21 else 0) ∧ cf = (if fdR F d s < 0 then bnF F d s 1 else F) ∧ ci = (if fdR F d s < 0 then (alN F : Int) else fdR F d s)) := ⟨hc1, hc2, hc3⟩
    clear hS hf hbg hW2 hb2 hr hc1 hc2 hc3 HCr h0
    go_wp2_with fail
    rw [← HW2.out, ← Hr.out]
    refine hFi.mono ?_
    rintro e w3 ⟨rfl, hf3, hbg3⟩
    have h3 := hbg3.other HR2.out (by decide)
    rw [← Hr.out] at h3
    obtain ⟨c0, c1⟩ := spot_row h3
    have HU3 : Hid (BG B w w3) := SU.trans HU2.out hbg3
    by_cases hlt : fdR F d s < 0
    · obtain ⟨hc1, hc2, hc3⟩ := HC.out
      rw [if_pos hlt] at hc1 hc2 hc3
      have hB := fborn_at hf3 HA.out (by omega) d s HLn.out 1 (Or.inl rfl)
      rw [← hc1, ← hc2, ← hc3] at hB
      clear hFi hf3 hbg3 h3 hc1 hc2 hc3 HC
      generalize fdR F d s = x at *
      go_wp2_with fail
      refine hB.mono ?_
      rintro e w4 (⟨k0, rfl, hf4, hbg4⟩ | ⟨k0, rfl, hdk4, hbg4⟩)
      · have HF : Hid (Fs w4 B cf (m + 250000) ∧ BG B w w4) := ⟨hf4.mono (by omega), SU.trans HU3.out hbg4⟩
        have HK : Hid (cr = 0) := k0
        clear hB hf4 hbg4 k0
        go_wp2
        go_ret
        exact Or.inl ⟨HK.out, rfl, HF.out⟩
      · have HF : Hid ((∃ ws, Dk w4 B F.n ws (m + 250000)) ∧ BG B w w4) := by
          obtain ⟨ws, hws⟩ := hdk4
          exact ⟨⟨ws, hws.mono (by omega)⟩, SU.trans HU3.out hbg4⟩
        have HK : Hid ((cr != 0) = true) := k0
        clear hB hdk4 hbg4 k0
        go_wp2
        exact ⟨rfl, Or.inr ⟨HK.out, rfl, HF.out⟩⟩
    · obtain ⟨k, hk, hk32⟩ := fd_nat HA.out hlt
      obtain ⟨hc1, hc2, hc3⟩ := HC.out
      rw [if_neg hlt] at hc1 hc2 hc3
      rw [hk] at hc1 hc3 hlt ⊢
      have hD := fisdir_at hf3 (by omega) k hk32
      have HC2 : Hid (cr = (if isD F (k : Int) = true then 21 else 0) ∧ cf = F ∧ ci = (k : Int)) := ⟨hc1, hc2, hc3⟩
      clear hFi hf3 hbg3 h3 hc1 hc2 hc3 HC hk
      generalize isD F (k : Int) = b at *
      go_wp2_with fail
      refine hD.mono ?_
      rintro e w4 ⟨rfl, hf4, hbg4⟩
      have HF : Hid (Fs w4 B F (m + 250000) ∧ BG B w w4) := ⟨hf4.mono (by omega), SU.trans HU3.out hbg4⟩
      clear hD hf4 hbg4
      obtain ⟨q1, q2, q3⟩ := HC2.out
      cases b with
      | true =>
        rw [if_pos rfl] at q1
        subst q1
        clear HC2 q2 q3
        go_wp2
        exact ⟨rfl, Or.inr ⟨rfl, rfl, HF.out.1.dk, HF.out.2⟩⟩
      | false =>
        rw [if_neg (by simp)] at q1
        subst q1
        subst q2
        subst q3
        clear HC2
        go_wp2
        go_ret
        exact Or.inl ⟨rfl, rfl, HF.out⟩
  · have hne : ¬ er = 0 := by simpa using h0
    have HC : Hid (cr = er) := by have := HCr.out.1; rw [if_neg hne] at this; exact this
    have HF : Hid ((∃ ws, Dk w1 B F.n ws (m + 250000)) ∧ BG B w w1) := by
      obtain ⟨ws, hws⟩ := hdk
      exact ⟨⟨ws, hws.mono (by omega)⟩, hbg⟩
    have HK : Hid ((er != 0) = true) := h0
    clear hS hdk hbg hne h0
    go_wp2
    exact ⟨rfl, Or.inr ⟨by rw [HC.out]; exact HK.out, by rw [HC.out], HF.out⟩⟩
set_option maxHeartbeats 4000000 in
set_option maxRecDepth 100000 in
theorem fmkdir_at (h : Fs w B F m) (hA : AllD F) (hm : m ≤ 600000000000) (p : List UInt8) (hp : p.length ≤ 9223372036854775807) :
    Calls Tryz.prog 81 #[sto B, tx p] w (Res B F.n (m + 250000) (mkR F p) (mkF F p) (.tuple #[]) w) := by
  have hS := fspot_at h hA (by omega) p hp
  have HA : Hid (AllD F) := hA
  have HCr : Hid (mkR F p = (if (paR F p).2.2 = 0 then (if fdR F (paR F p).1 (paR F p).2.1 < 0 then bnR F (paR F p).1 (paR F p).2.1 2 else 17) else (paR F p).2.2) ∧ mkF F p = bnF F (paR F p).1 (paR F p).2.1 2) := ⟨rfl, rfl⟩
  have HLn : Hid ((paR F p).2.1.length ≤ 9223372036854775807) := by have := pa_len (F := F) (p := p); show _ ≤ _; omega
  clear h hA
  generalize mkR F p = cr at *
  generalize mkF F p = cf at *
  generalize (paR F p).1 = d at *
  generalize (paR F p).2.1 = s at *
  generalize (paR F p).2.2 = er at *
  go_enter Tryz.func81, Tryz.ntmps81
  go_wp2_with fail
  refine hS.mono ?_
  rintro e w1 (⟨h0, rfl, hf, hbg⟩ | ⟨h0, rfl, hdk, hbg⟩)
  · obtain ⟨hc1, hc2⟩ := HCr.out
    rw [if_pos h0] at hc1
    obtain ⟨W2, hW2⟩ : ∃ W, W = w1.alloc (.cells #[.int .i64 d, tx s] 180) := ⟨_, rfl⟩
    have hb2 : Below w1.heap.size w1 W2 := by rw [hW2]; exact below_alloc _ _
    have hr2 : W2.heap[w1.heap.size]? = some (.cells #[.int .i64 d, tx s] 180) := by rw [hW2]; exact heap_alloc_new _ _
    have hFi := ffind_at (hf.below hb2) HA.out (by omega) d s
    have HU2 : Hid (BG B w W2) := SU.trans hbg (SU.of_below hb2)
    have HW2 : Hid _ := hW2
    have HR2 : Hid (W2.heap[w1.heap.size]? = some (.cells #[.int .i64 d, tx s] 180)) := hr2
    obtain ⟨r, hr⟩ : ∃ r, r = w1.heap.size := ⟨_, rfl⟩
    have Hr : Hid (r = w1.heap.size) := hr
    have HC : Hid (cr = (if fdR F d s < 0 then bnR F d s 2 else 17) ∧ cf = bnF F d s 2) := ⟨hc1, hc2⟩
    clear hS hf hbg hW2 hb2 hr hc1 hc2 HCr h0
    go_wp2_with fail
    rw [← HW2.out, ← Hr.out]
    refine hFi.mono ?_
    rintro e w3 ⟨rfl, hf3, hbg3⟩
    have h3 := hbg3.other HR2.out (by decide)
    rw [← Hr.out] at h3
    obtain ⟨c0, c1⟩ := spot_row h3
    have HU3 : Hid (BG B w w3) := SU.trans HU2.out hbg3
    by_cases hlt : fdR F d s < 0
    · obtain ⟨hc1, hc2⟩ := HC.out
      rw [if_pos hlt] at hc1
      have hB := fborn_at hf3 HA.out (by omega) d s HLn.out 2 (Or.inr rfl)
      rw [← hc1, ← hc2] at hB
      have hge : ¬ (0 : Int) ≤ fdR F d s := by omega
      clear hFi hf3 hbg3 h3 hc1 hc2 HC
      generalize fdR F d s = x at *
      generalize (alN F : Int) = an at *
      go_wp2_with fail
      refine hB.mono ?_
      rintro e w4 (⟨k0, rfl, hf4, hbg4⟩ | ⟨k0, rfl, hdk4, hbg4⟩)
      · have HF : Hid (Fs w4 B cf (m + 250000) ∧ BG B w w4) := ⟨hf4.mono (by omega), SU.trans HU3.out hbg4⟩
        have HK : Hid (cr = 0) := k0
        clear hB hf4 hbg4 k0
        go_wp2
        go_end0
        exact Or.inl ⟨HK.out, rfl, HF.out⟩
      · have HF : Hid ((∃ ws, Dk w4 B F.n ws (m + 250000)) ∧ BG B w w4) := by
          obtain ⟨ws, hws⟩ := hdk4
          exact ⟨⟨ws, hws.mono (by omega)⟩, SU.trans HU3.out hbg4⟩
        have HK : Hid ((cr != 0) = true) := k0
        clear hB hdk4 hbg4 k0
        go_wp2
        exact ⟨rfl, Or.inr ⟨HK.out, rfl, HF.out⟩⟩
    · obtain ⟨hc1, hc2⟩ := HC.out
      rw [if_neg hlt] at hc1
      have HF : Hid (Fs w3 B F (m + 250000) ∧ BG B w w3) := ⟨hf3.mono (by omega), HU3.out⟩
      subst hc1
      have hge : (0 : Int) ≤ fdR F d s := by omega
      clear hFi hf3 hbg3 h3 hc2 HC
      generalize fdR F d s = x at *
      go_wp2
      exact ⟨rfl, Or.inr ⟨rfl, rfl, HF.out.1.dk, HF.out.2⟩⟩
  · have hne : ¬ er = 0 := by simpa using h0
    have HC : Hid (cr = er) := by have := HCr.out.1; rw [if_neg hne] at this; exact this
    have HF : Hid ((∃ ws, Dk w1 B F.n ws (m + 250000)) ∧ BG B w w1) := by
      obtain ⟨ws, hws⟩ := hdk
      exact ⟨⟨ws, hws.mono (by omega)⟩, hbg⟩
    have HK : Hid ((er != 0) = true) := h0
    clear hS hdk hbg hne h0
    go_wp2
    exact ⟨rfl, Or.inr ⟨by rw [HC.out]; exact HK.out, by rw [HC.out], HF.out⟩⟩
end
end Go.Proofs.YtcjpahnlckfgoaaGreatDoor

namespace Go.Proofs.YtcjpahnlckfgoaaGreatDoor
open Go.RowKit
set_option linter.unusedVariables false

/-- A slice of numbers that can be read. -/
def OpIn (w : World) (v : Value) (os : List Int) : Prop :=
  ∃ a cap, v = .slice a os.length cap ∧ os.length ≤ 9223372036854775807 ∧ (os ≠ [] → ∃ g off cur fz, a = some ⟨g, off, none⟩ ∧ w.heap[g]? = some (.cells cur 3 fz) ∧ ∀ (j : Nat) (x : Int), os[j]? = some x → cur[off + j]? = some (.int .i64 x))
theorem OpIn.nil (w : World) : OpIn w (.slice none 0 0) [] := ⟨none, 0, rfl, by simp, fun h => absurd rfl h⟩
theorem OpIn.below {w w' : World} {v : Value} {os : List Int} (h : OpIn w v os) (hb : Below w.heap.size w w') : OpIn w' v os := by
  obtain ⟨a, cap, h1, h2, h3⟩ := h
  refine ⟨a, cap, h1, h2, fun hne => ?_⟩
  obtain ⟨g, off, cur, fz, e1, e2, e3⟩ := h3 hne
  exact ⟨g, off, cur, fz, e1, (hb.block g (lt_of_heap e2)).trans e2, e3⟩
theorem OpIn.su {w w' : World} {v : Value} {os : List Int} {lo : Nat} {Q : Nat → Prop} (h : OpIn w v os) (hu : SU lo Q w w') (hq : ∀ k cs fz, Q k → w.heap[k]? ≠ some (.cells cs 3 fz)) : OpIn w' v os := by
  obtain ⟨a, cap, h1, h2, h3⟩ := h
  refine ⟨a, cap, h1, h2, fun hne => ?_⟩
  obtain ⟨g, off, cur, fz, e1, e2, e3⟩ := h3 hne
  exact ⟨g, off, cur, fz, e1, hu.kept e2 (by decide) (fun q => hq g cur fz q e2), e3⟩
theorem OpIn.st {w w' : World} {v : Value} {os : List Int} {lo : Nat} (h : OpIn w v os) (hu : ST lo w w') : OpIn w' v os := h.su hu (fun _ _ _ q => q.elim)
set_option maxHeartbeats 1000000 in
theorem index_at {w : World} {v : Value} {os : List Int} (h : OpIn w v os) (x : Int) :
    Calls Tryz.prog 191 #[v, .int .i64 x] w fun e w' => (∃ r : Int, e = .returned (.int .i64 r) ∧ (0 ≤ r ↔ x ∈ os)) ∧ w' = w := by
  obtain ⟨a, cap, rfl, hl, hf⟩ := h
  obtain ⟨N, hN⟩ : ∃ N, N = os.length := ⟨_, rfl⟩
  have HN : Hid (N = os.length) := hN
  have HC : Hid (∀ k, k < N → ∃ g off y, a = some ⟨g, off, none⟩ ∧ os[k]? = some y ∧ w.cell? ⟨g, off + k, none⟩ = some (.int .i64 y)) := fun k hk => by
    have hk' : k < os.length := by omega
    obtain ⟨g, off, cur, fz, e1, e2, e3⟩ := hf (fun e => by rw [e] at hk'; simp at hk')
    exact ⟨g, off, os[k], e1, List.getElem?_eq_getElem hk', by rw [cell_of_heap e2]; exact e3 k _ (List.getElem?_eq_getElem hk')⟩
  rw [← hN] at hl ⊢
  clear hf hN
  go_enter Tryz.func191, Tryz.ntmps191
  go_wp2
  go_loopw [8] (fun s wr => ∃ (k : Nat), k ≤ N ∧ s = .int .i64 k ∧ wr = w ∧ Hid (∀ j y, j < k → os[j]? = some y → x ≠ y)) (fun s _ => N - (intOf s).toNat)
  case atStart => exact ⟨0, by omega, rfl, rfl, fun j y hj => by omega⟩
  case round =>
    obtain ⟨k, hk, rfl, rfl, HA⟩ := hrel
    by_cases hlt : k < N
    · have hki : (k : Int) < (N : Int) := by omega
      obtain ⟨g, off, y, rfl, hy, hc⟩ := HC.out k hlt
      have HY : Hid (os[k]? = some y) := hy
      clear hy
      by_cases hq : x = y
      · have hb : (x == y) = true := by simp [hq]
        have HQ : Hid (x = y) := hq
        clear hq HA
        go_wp2
        go_ret
        refine ⟨⟨_, rfl, ⟨fun _ => ?_, fun _ => by omega⟩⟩, by trivial⟩
        rw [HQ.out]
        exact List.mem_of_getElem? HY.out
      · have hb : (x == y) = false := by simpa using hq
        have HQ : Hid (x ≠ y) := hq
        clear hq
        go_wp2
        go_roundw
        case rel =>
          refine ⟨k + 1, by omega, by go_num, by trivial, fun j z hj hz => ?_⟩
          by_cases e : j = k
          · subst e
            have := HY.out
            rw [this] at hz
            cases hz
            exact HQ.out
          · exact HA.out j z (by omega) hz
        case measure => simp [intOf]; omega
    · obtain rfl : k = N := by omega
      go_wp2
      go_ret
      refine ⟨⟨_, rfl, ⟨fun h => by omega, fun hm => ?_⟩⟩, by trivial⟩
      obtain ⟨j, hj, e⟩ := List.getElem_of_mem hm
      exact absurd e.symm (HA.out j _ (by have := HN.out; omega) (List.getElem?_eq_getElem hj))
set_option maxHeartbeats 1000000 in
theorem contains_at {w : World} {v : Value} {os : List Int} (h : OpIn w v os) (x : Int) :
    Calls Tryz.prog 174 #[v, .int .i64 x] w fun e w' => e = .returned (.bool (decide (x ∈ os))) ∧ w' = w := by
  have hI := index_at h x
  obtain ⟨a, cap, rfl, -, -⟩ := h
  generalize os.length = N at *
  go_enter Tryz.func174, Tryz.ntmps174
  go_wp2_with fail
  refine hI.mono ?_
  rintro e w1 ⟨⟨r, rfl, hr⟩, hw⟩
  rw [hw]
  clear hw hI
  have HR : Hid (decide (0 ≤ r) = decide (x ∈ os)) := decide_eq_decide.2 hr
  clear hr
  go_wp2
  go_ret
  exact ⟨by rw [← HR.out]; rfl, rfl⟩
/-- One name less. -/
def dpF (F : FS) (d : Int) (s : List UInt8) (i : Nat) (os : List Int) : FS :=
  if (F.ino i).links = 1 ∧ ¬ (i : Int) ∈ os then freeF (lkF (rmF F d s) i ((F.ino i).links - 1)) i else lkF (rmF F d s) i ((F.ino i).links - 1)
theorem lay_links (F : FS) (i : Nat) (t : List Int) (j : Nat) : ((layT F i t).ino j).links = (F.ino j).links := by
  by_cases e : j = i
  · rw [e]; unfold layT; rw [FS.put_same]
  · rw [lay_other F i t e]
theorem rm_links (F : FS) (d : Int) (s : List UInt8) (j : Nat) : ((rmF F d s).ino j).links = (F.ino j).links := by
  unfold rmF
  split
  · exact lay_links _ _ _ _
  · rfl
theorem rm_iw (F : FS) (d : Int) (s : List UInt8) : (rmF F d s).iw = F.iw ∧ (rmF F d s).n = F.n := by
  unfold rmF
  split
  · exact lay_iw _ _ _
  · exact ⟨rfl, rfl⟩
theorem AllD.rm {F : FS} (hF : FInv F) (h : AllD F) (d : Int) (s : List UInt8) : AllD (rmF F d s) := by
  by_cases hr : rmR F d s = 0
  · obtain ⟨k, l, e1, e2, e3, e4, e5, e6, e7⟩ := rem_ok hF h hr
    rw [e6] at e7 ⊢
    exact h.lay e7
  · unfold rmF
    rw [if_neg hr]
    exact h
theorem AllD.ad {F : FS} (hF : FInv F) (h : AllD F) (d : Int) (s : List UInt8) (to : Int) : AllD (adF F d s to) := by
  by_cases hr : adR F d s to = 0
  · obtain ⟨k, t, l, e1, e2, e3, e4, e5, e6, e7, e8⟩ := add_ok hF h hr
    rw [e6] at e7 ⊢
    exact h.lay e7
  · unfold adF
    rw [if_neg hr]
    exact h
section
variable {w w' : World} {m : Nat} {B : Sto} {F : FS}
set_option maxHeartbeats 4000000 in
set_option maxRecDepth 100000 in
theorem fdrop_at (h : Fs w B F m) (hA : AllD F) (hm : m ≤ 700000000000) (d : Int) (s : List UInt8) (hr : rmR F d s = 0) (i : Nat) (hi : i < 32) (hi0 : i ≠ 0) (hu : Bi.bt F.iw i = true) (hl1 : 1 ≤ (F.ino i).links) (hl2 : (F.ino i).links ≤ 1000) {v : Value} {os : List Int} (ho : OpIn w v os) :
    Calls Tryz.prog 129 #[sto B, .agg #[.int .i64 d, tx s], .int .i64 (i : Int), v] w fun e w' => e = .returned (.tuple #[]) ∧ Fs w' B (dpF F d s i os) (m + 21000) ∧ BG B w w' := by
  obtain ⟨W0, hW0⟩ : ∃ W, W = w.alloc (.cells #[.int .i64 d, tx s] 180) := ⟨_, rfl⟩
  have hb0 : Below w.heap.size w W0 := by rw [hW0]; exact below_alloc _ _
  have hRm := Remove_at (h.below hb0) hA (by omega) d s
  rw [hr] at hRm
  have HO : Hid (OpIn W0 v os) := ho.below hb0
  have HW0 : Hid _ := hW0
  have HB0 : Hid (Below w.heap.size w W0) := hb0
  have HI : Hid (FInv F) := h.inv
  have HA : Hid (AllD F) := hA
  have hlr := rm_links F d s i
  have hiw := rm_iw F d s
  have HC : Hid (∀ W : World, Fs W B (rmF F d s) (m + 12000) → Calls Tryz.prog 123 #[sto B, .int .i64 (i : Int), .int .i64 (-1)] W fun e w' => e = .returned (.int .i64 ((F.ino i).links - 1)) ∧ Fs w' B (lkF (rmF F d s) i ((F.ino i).links - 1)) (m + 18000) ∧ BG B W w') := fun W hW => by
    have := fcount_at hW (by omega) i hi (by rw [hiw.1]; exact hu) (-1) (by omega) (by omega) (by rw [hlr]; omega) (by rw [hlr]; omega)
    rw [hlr] at this
    exact this
  have HFr : Hid (∀ W : World, Fs W B (lkF (rmF F d s) i ((F.ino i).links - 1)) (m + 18000) → Calls Tryz.prog 136 #[sto B, .int .i64 (i : Int)] W fun e w' => e = .returned (.int .i64 0) ∧ Fs w' B (freeF (lkF (rmF F d s) i ((F.ino i).links - 1)) i) (m + 21000) ∧ BG B W w') := fun W hW => free_yes hW (by omega) i hi hi0 (by show Bi.bt (rmF F d s).iw i = true; rw [hiw.1]; exact hu)
  have HD : Hid (dpF F d s i os = if (F.ino i).links = 1 ∧ ¬ (i : Int) ∈ os then freeF (lkF (rmF F d s) i ((F.ino i).links - 1)) i else lkF (rmF F d s) i ((F.ino i).links - 1)) := rfl
  obtain ⟨a, cap, hv, -, -⟩ := ho
  have HV : Hid (v = .slice a os.length cap) := hv
  obtain ⟨N, hN⟩ : ∃ N, N = os.length := ⟨_, rfl⟩
  have HN : Hid (N = os.length) := hN
  rw [hv, ← hN]
  clear h hW0 hb0 hA hr hlr hiw hv hN hu
  generalize dpF F d s i os = df at *
  generalize (F.ino i).links = lk at *
  generalize hF2 : lkF (rmF F d s) i (lk - 1) = F2 at *
  have HF2 : Hid (lkF (rmF F d s) i (lk - 1) = F2) := hF2
  clear hF2
  go_enter Tryz.func129, Tryz.ntmps129
  go_wp2_with fail
  rw [← HW0.out]
  refine hRm.mono ?_
  rintro e w1 ⟨rfl, hf, hbg⟩
  have hC := HC.out w1 hf
  have HU1 : Hid (BG B w w1) := SU.trans (SU.of_below HB0.out) hbg
  have HO1 : Hid (OpIn w1 v os) := HO.out.st hbg
  clear hRm hf hbg HC HO
  go_wp2_with (go_at_call 102; refine (must_ok _).mono ?_; rintro e w2 ⟨rfl, hw⟩; rw [hw]; clear hw w2)
  refine hC.mono ?_
  rintro e w2 ⟨rfl, hf, hbg⟩
  have HFs2 : Hid (Fs w2 B F2 (m + 18000)) := hf
  have HU2 : Hid (BG B w w2) := SU.trans HU1.out hbg
  have hCo := contains_at (HO1.out.st hbg) (i : Int)
  rw [HV.out, ← HN.out] at hCo
  clear hC hf hbg HO1
  by_cases hl : lk = 1
  · subst hl
    have hz : ((1 : Int) - 1 == 0) = true := rfl
    have hz2 : ((0 : Int) == 0) = true := rfl
    by_cases hm' : (i : Int) ∈ os
    · rw [decide_eq_true hm'] at hCo
      have hD := HD.out
      rw [if_neg (by simp [hm'])] at hD
      have HDd : Hid (df = F2) := hD
      clear hD hm' HD HFr
      go_wp2_with (go_at_call 174; refine hCo.mono ?_; rintro e w4 ⟨rfl, hw⟩; rw [hw]; clear hw w4)
      go_end0
      exact ⟨rfl, by rw [HDd.out]; exact HFs2.out.mono (by omega), HU2.out⟩
    · rw [decide_eq_false hm'] at hCo
      have hD := HD.out
      rw [if_pos ⟨rfl, hm'⟩] at hD
      have HDd : Hid (df = freeF F2 i) := hD
      have hFr := HFr.out w2 HFs2.out
      clear hD hm' HD HFr
      go_wp2_with (go_at_call 174; refine hCo.mono ?_; rintro e w4 ⟨rfl, hw⟩; rw [hw]; clear hw w4)
      refine hFr.mono ?_
      rintro e w3 ⟨rfl, hf, hbg⟩
      have HF : Hid (Fs w3 B df (m + 21000) ∧ BG B w w3) := ⟨by rw [HDd.out]; exact hf, SU.trans HU2.out hbg⟩
      clear hFr hf hbg hCo
      go_wp2_with (go_at_call 102; refine (must_ok _).mono ?_; rintro e w2 ⟨rfl, hw⟩; rw [hw]; clear hw w2)
      go_end0
      exact ⟨rfl, HF.out⟩
  · have hz : (lk - 1 == 0) = false := by simp; omega
    have hD := HD.out
    rw [if_neg (fun q => hl q.1)] at hD
    have HDd : Hid (df = F2) := hD
    clear hD HD HFr hCo
    go_wp2
    go_end0
    exact ⟨rfl, by rw [HDd.out]; exact HFs2.out.mono (by omega), HU2.out⟩
end
end Go.Proofs.YtcjpahnlckfgoaaGreatDoor
