/- The reference of package procs: All, Encode. -/
import Derived.Test.YtfcpcncafopobaaRqA
import Derived.Deep.RegionHeld3
namespace Go.Proofs.Ytfcpcncafopobaa
open Go.RowKit Go.Lib
set_option linter.unusedVariables false

/-- Who lives among the first k. -/
def alTo (S : St) : Nat → List Int
  | 0 => []
  | k + 1 => if liv S ((k : Int) + 1) = true then alTo S k ++ [(k : Int) + 1] else alTo S k
theorem alTo_len (S : St) : ∀ k, (alTo S k).length ≤ k
  | 0 => Nat.le_refl _
  | k + 1 => by
    have := alTo_len S k
    unfold alTo
    split
    · rw [List.length_append]; simp; omega
    · omega
theorem alTo_mem (S : St) (x : Int) : ∀ k, x ∈ alTo S k ↔ (1 ≤ x ∧ x ≤ (k : Int) ∧ liv S x = true)
  | 0 => by
    constructor
    · intro h; simp [alTo] at h
    · intro h; omega
  | k + 1 => by
    have ih := alTo_mem S x k
    unfold alTo
    by_cases hl : liv S ((k : Int) + 1) = true
    · rw [if_pos hl, List.mem_append, List.mem_singleton, ih]
      constructor
      · rintro (⟨h1, h2, h3⟩ | h)
        · exact ⟨h1, by omega, h3⟩
        · rw [h]; exact ⟨by omega, by omega, hl⟩
      · rintro ⟨h1, h2, h3⟩
        by_cases e : x = (k : Int) + 1
        · exact Or.inr e
        · exact Or.inl ⟨h1, by omega, h3⟩
    · rw [if_neg hl, ih]
      constructor
      · rintro ⟨h1, h2, h3⟩
        exact ⟨h1, by omega, h3⟩
      · rintro ⟨h1, h2, h3⟩
        refine ⟨h1, ?_, h3⟩
        by_cases e : x = (k : Int) + 1
        · rw [e] at h3; exact absurd h3 hl
        · omega
theorem alTo_up (S : St) : ∀ k, (alTo S k).Pairwise (· < ·)
  | 0 => List.Pairwise.nil
  | k + 1 => by
    unfold alTo
    split
    · rw [List.pairwise_append]
      refine ⟨alTo_up S k, by simp, fun a ha b hb => ?_⟩
      rw [List.mem_singleton] at hb
      have := (alTo_mem S a k).1 ha
      omega
    · exact alTo_up S k
theorem alTo_8 {S : St} (hd : Dom S) : alTo S 8 = lstF S (fun p => !p.zom) := by
  refine up_ext _ _ (alTo_up S 8) (lst_up S _) (fun x => ?_)
  rw [alTo_mem, mem_lst hd]
  constructor
  · exact fun h => h.2.2
  · intro h
    have h' := h
    unfold hits at h
    cases e : S x with
    | none => rw [e] at h; cases h
    | some p =>
      have := hd x p e
      exact ⟨by omega, by omega, h'⟩
set_option maxRecDepth 100000 in
set_option maxHeartbeats 4000000 in
theorem rall_at (b : Nat) (S : St) (w : World) (h : RT w b (trS S)) (hd : Dom S) :
    Calls Try.prog 25 #[ptr b] w fun e w' => ∃ a cap, e = .returned (.slice a (lstF S (fun p => !p.zom)).length cap) ∧ IRow w' a (lstF S (fun p => !p.zom)) ∧ Below w.heap.size w w' := by
  have HH : Hid (RT w b (trS S)) := h
  have HE8 : Hid (alTo S 8 = lstF S (fun p => !p.zom)) := alTo_8 hd
  clear h hd
  go_enter Try.func25, Try.ntmps25
  go_wp2
  go_loopw [3, 4] (fun t s wr => ∃ (i : Nat) (ak : Option Addr) (nk ck : Nat), i ≤ 8 ∧ s = .int .i64 i ∧ .slice ak nk ck = t ∧ nk = (alTo S i).length ∧ wr.ownsRow w.heap.size 3 1 (.slice ak nk ck) (alTo S i).length (ivs (alTo S i)) ∧ Below w.heap.size w wr) (fun _ s _ => 8 - (intOf s).toNat)
  case atStart => exact ⟨0, none, 0, 0, by omega, rfl, rfl, rfl, World.ownsRow_nil w _ _ 1, Below.refl _ _⟩
  case round =>
    obtain ⟨i, ak, nk, ck, hi, rfl, rfl, hnk, hown, hB⟩ := hrel
    have HB : Hid (Below w.heap.size w wr) := hB
    by_cases hlt : i < 8
    · have i1 : decide ((i : Int) < 8) = true := decide_eq_true (by omega)
      have n1 : (i : Int) < 8 := by omega
      have n0 : (0 : Int) ≤ (i : Int) := by omega
      have c0 := (HH.out.below hB).is hlt
      have hlen := alTo_len S i
      have hv := livT_S (S := S) (k := (i : Int) + 1)
      cases hl : liv S ((i : Int) + 1) with
      | true =>
        obtain ⟨p, hp, hz⟩ := liv_is.1 hl
        rw [show trS S i = trO (S ((i : Int) + 1)) from rfl, hp, show (trO (some p)).is = if p.zom = true then 2 else 1 from rfl, hz, if_neg (by simp)] at c0
        obtain ⟨a', c', w3, hrun, hown3, hgr⟩ := app1i hown hnk.symm hB.size (by omega) ((i : Int) + 1)
        have HS : Hid (alTo S (i + 1) = alTo S i ++ [(i : Int) + 1]) := by show _ = _; rw [alTo, if_pos hl]
        rw [← HS.out] at hown3
        have HO3 : Hid (w3.ownsRow w.heap.size 3 1 (.slice a' (nk + 1) c') (alTo S (i + 1)).length (ivs (alTo S (i + 1)))) := hown3
        have HN3 : Hid (nk + 1 = (alTo S (i + 1)).length) := by show _ = _; rw [HS.out, List.length_append, ← hnk]; rfl
        have HB3 : Hid (Below w.heap.size w w3) := hB.trans (below_grown hgr hB.size (ownsRow_low hown))
        have HRun : Hid _ := hrun
        have hwi : IntKind.i64.wrap ((i : Int) + 1) = (i : Int) + 1 := by simp [IntKind.wrap, IntKind.bits, IntKind.signed]; omega
        clear hown hB hnk hlen hv hl hp hz hrun hown3 hgr
        go_wp2_with (at_builtin; refine wpList_append_eq rfl _ _ _ rfl _ _ _ rfl rfl HRun.out ?_)
        go_roundw
        case rel => exact ⟨i + 1, a', nk + 1, c', by omega, by go_num, rfl, HN3.out, HO3.out, HB3.out⟩
        case measure => simp [intOf]; omega
      | false =>
        have g0 : ((trS S i).is == 1) = false := by
          unfold trS
          unfold liv hits at hl
          cases e : S ((i : Int) + 1) with
          | none => rfl
          | some p =>
            rw [e] at hl
            have hz : p.zom = true := by simpa using hl
            show ((if p.zom = true then (2 : Int) else 1) == 1) = false
            rw [hz]; rfl
        have HS : Hid (alTo S (i + 1) = alTo S i) := by show _ = _; rw [alTo, if_neg (by rw [hl]; simp)]
        have HO3 : Hid (wr.ownsRow w.heap.size 3 1 (.slice ak nk ck) (alTo S (i + 1)).length (ivs (alTo S (i + 1)))) := by rw [HS.out]; exact hown
        have HN3 : Hid (nk = (alTo S (i + 1)).length) := by show _ = _; rw [HS.out]; exact hnk
        generalize (trS S i).is = z at *
        clear hown hB hnk hlen hv hl
        go_wp2
        go_roundw
        case rel => exact ⟨i + 1, ak, nk, ck, by omega, by go_num, rfl, HN3.out, HO3.out, HB.out⟩
        case measure => simp [intOf]; omega
    · have i1 : decide ((i : Int) < 8) = false := decide_eq_false (by omega)
      have hi8 : i = 8 := by omega
      subst hi8
      obtain ⟨M, hM⟩ : ∃ M, M = lstF S (fun p => !p.zom) := ⟨_, rfl⟩
      rw [HE8.out, ← hM] at hown hnk
      have HM : Hid (M = lstF S (fun p => !p.zom)) := hM
      have HN : Hid (nk = M.length) := hnk
      obtain ⟨a2, c2, e2, hI⟩ := own_irow hown
      rw [← hnk] at e2
      cases e2
      have HI : Hid (IRow wr ak M) := hI
      clear hown hB hnk hM hI
      go_wp2
      go_ret
      rw [← HM.out]
      exact ⟨ak, ck, by rw [← HN.out]; rfl, HI.out, HB.out⟩
/-- The row as words. -/
def encT (T : TS) : Nat → List Int
  | 0 => []
  | k + 1 => encT T k ++ [IntKind.u64.wrap (T k).is, IntKind.u64.wrap (T k).par, IntKind.u64.wrap (T k).st]
theorem encT_len (T : TS) : ∀ k, (encT T k).length = 3 * k
  | 0 => rfl
  | k + 1 => by unfold encT; rw [List.length_append, encT_len T k]; simp; omega
theorem encT_S (S : St) : ∀ k, encT (trS S) k = encK S k
  | 0 => rfl
  | k + 1 => by
    unfold encT encK
    rw [encT_S S k]
    congr 1
    unfold trS
    cases e : S ((k : Int) + 1) with
    | none => rfl
    | some p => cases hz : p.zom <;> simp [trO, encP, hz] <;> rfl
set_option maxRecDepth 100000 in
set_option maxHeartbeats 8000000 in
theorem rencode_at (b : Nat) (T : TS) (w : World) (h : RT w b T) :
    Calls Try.prog 27 #[ptr b] w fun x w' => ∃ v, x = .returned v ∧ w'.ownsRow w.heap.size 76 1 v (encT T 8).length (uvs (encT T 8)) ∧ Below w.heap.size w w' := by
  have HH : Hid (RT w b T) := h
  clear h
  go_enter Try.func27, Try.ntmps27
  go_wp2
  go_loopw [3, 4] (fun t s wr => ∃ (i : Nat) (ak : Option Addr) (nk ck : Nat), i ≤ 8 ∧ s = .int .i64 i ∧ .slice ak nk ck = t ∧ nk = (encT T i).length ∧ wr.ownsRow w.heap.size 76 1 (.slice ak nk ck) (encT T i).length (uvs (encT T i)) ∧ UW w.heap.size w wr) (fun _ s _ => 8 - (intOf s).toNat)
  case atStart => exact ⟨0, none, 0, 0, by omega, rfl, rfl, rfl, World.ownsRow_nil w _ _ 1, UW.refl _ _⟩
  case round =>
    obtain ⟨i, ak, nk, ck, hi, rfl, rfl, hnk, hown, hU⟩ := hrel
    have HU : Hid (UW w.heap.size w wr) := hU
    by_cases hlt : i < 8
    · have i1 : decide ((i : Int) < 8) = true := decide_eq_true (by omega)
      have n1 : (i : Int) < 8 := by omega
      have n0 : (0 : Int) ≤ (i : Int) := by omega
      have hel := encT_len T i
      have hwd : wr.drew.ownsRow w.heap.size 76 1 (.slice ak nk ck) (encT T i).length (uvs (encT T i)) := hown
      have hUd : UW w.heap.size w wr.drew := hU.trans (UW.of_below hU.bel.size (Below.refl wr.heap.size wr).drew)
      have HE : Hid (encT T (i + 1) = encT T i ++ [IntKind.u64.wrap (T i).is, IntKind.u64.wrap (T i).par, IntKind.u64.wrap (T i).st]) := rfl
      obtain ⟨a1, c1, w1, hrun1, hown1, hU1⟩ := app3 hwd hnk.symm hUd.bel.size (by omega) (IntKind.u64.wrap (T i).is) (IntKind.u64.wrap (T i).par) (IntKind.u64.wrap (T i).st)
      rw [← HE.out] at hown1
      have hcw : ∀ V, Below w.heap.size w V → V.cell? ⟨b, i * 3, none⟩ = some (.int .i64 (T i).is) ∧ V.cell? ⟨b, i * 3 + 1, none⟩ = some (.int .i64 (T i).par) ∧ V.cell? ⟨b, i * 3 + 2, none⟩ = some (.int .i64 (T i).st) := fun V hb => ⟨(HH.out.below hb).is hlt, (HH.out.below hb).par hlt, (HH.out.below hb).st hlt⟩
      obtain ⟨d0, d1, d2⟩ := hcw wr.drew hUd.bel
      have hs1 := hcw (wr.drew.alloc (.cells #[.int .u64 (IntKind.u64.wrap (T i).is), .int .u64 (IntKind.u64.wrap (T i).par), .int .u64 (IntKind.u64.wrap (T i).st)] 76)) (hUd.bel.alloc hUd.bel.size _)
      have hs2 := hcw w1 (hUd.bel.trans hU1.bel)
      have HRun1 : ∀ ty, (Builtin.append_ #[47, 47] ty #[.slice ak nk ck, .slice (some ⟨wr.heap.size, 0, none⟩) 3 3]).run Try.prog (wr.drew.alloc (.cells #[.int .u64 (IntKind.u64.wrap (T i).is), .int .u64 (IntKind.u64.wrap (T i).par), .int .u64 (IntKind.u64.wrap (T i).st)] 76)) = .ok (.slice a1 (nk + 3) c1) w1 := hrun1
      have HO : Hid (w1.ownsRow w.heap.size 76 1 (.slice a1 (nk + 3) c1) (encT T (i + 1)).length (uvs (encT T (i + 1)))) := hown1
      have HN : Hid (nk + 3 = (encT T (i + 1)).length) := by show _ = _; rw [HE.out, List.length_append, ← hnk]; rfl
      have HU1 : Hid (UW w.heap.size w w1) := hUd.trans hU1
      clear hown hU hnk hel hwd hUd hrun1 hown1 hU1 hcw
      clear HE
      generalize (T i).is = x at *
      generalize (T i).par = y at *
      generalize (T i).st = z at *
      go_upto_region 5 with fail
      refine wp_region_held_drew (S := fun w' => w'.cell? ⟨b, i * 3, none⟩ = some (.int .i64 x) ∧ w'.cell? ⟨b, i * 3 + 1, none⟩ = some (.int .i64 y) ∧ w'.cell? ⟨b, i * 3 + 2, none⟩ = some (.int .i64 z)) (by kernel_rfl) ⟨d0, d1, d2⟩ (fun hHeld => ?_)
      refine wpAnyH_take (i := 0) (v := ?_) rfl (by kernel_rfl) (by kernel_rfl) (by kernel_rfl) (fun _ _ _ h => h) (Or.inl ⟨by kernel_rfl, ?_⟩) (by assumption) ?_
      rotate_left
      · (intro w hSw; (try dsimp only at hSw); go_simp) <;> with_reducible rfl
      (try simp only [Act.put, List.getElem_toArray, List.getElem_cons_zero, List.setIfInBounds_toArray, List.set_cons_zero, List.set_cons_succ])
      refine wpAnyH_take (i := 1) (v := ?_) rfl (by kernel_rfl) (by kernel_rfl) (by kernel_rfl) (fun _ _ _ h => h) (Or.inl ⟨by kernel_rfl, ?_⟩) (by assumption) ?_
      rotate_left
      · (intro w hSw; (try dsimp only at hSw); go_simp) <;> with_reducible rfl
      (try simp only [Act.put, List.getElem_toArray, List.getElem_cons_zero, List.getElem_cons_succ, List.setIfInBounds_toArray, List.set_cons_zero, List.set_cons_succ])
      refine wpAnyH_take (i := 2) (v := ?_) rfl (by kernel_rfl) (by kernel_rfl) (by kernel_rfl) (fun _ _ _ h => h) (Or.inl ⟨by kernel_rfl, ?_⟩) (by assumption) ?_
      rotate_left
      · (intro w hSw; (try dsimp only at hSw); go_simp) <;> with_reducible rfl
      (try simp only [Act.put, List.getElem_toArray, List.getElem_cons_zero, List.getElem_cons_succ, List.setIfInBounds_toArray, List.set_cons_zero, List.set_cons_succ])
      refine wpAnyH_take (i := 3) (v := ?_) rfl (by kernel_rfl) (by kernel_rfl) (by kernel_rfl) (fun _ _ _ h => h) (Or.inl ⟨by kernel_rfl, ?_⟩) (by assumption) ?_
      rotate_left
      · (intro w hSw; (try dsimp only at hSw); go_simp) <;> with_reducible rfl
      (try simp only [Act.put, List.getElem_toArray, List.getElem_cons_zero, List.getElem_cons_succ, List.setIfInBounds_toArray, List.set_cons_zero, List.set_cons_succ])
      refine wpAnyH_take (i := 4) (v := ?_) rfl (by kernel_rfl) (by kernel_rfl) (by kernel_rfl) (fun _ _ _ h => h) (Or.inl ⟨by kernel_rfl, ?_⟩) (by assumption) ?_
      rotate_left
      · (intro w hSw; (try dsimp only at hSw); go_simp) <;> with_reducible rfl
      (try simp only [Act.put, List.getElem_toArray, List.getElem_cons_zero, List.getElem_cons_succ, List.setIfInBounds_toArray, List.set_cons_zero, List.set_cons_succ])
      refine wpAnyH_take (i := 5) (v := ?_) rfl (by kernel_rfl) (by kernel_rfl) (by kernel_rfl) (fun _ _ _ h => h) (Or.inl ⟨by kernel_rfl, ?_⟩) (by assumption) ?_
      rotate_left
      · (intro w hSw; (try dsimp only at hSw); go_simp) <;> with_reducible rfl
      (try simp only [Act.put, List.getElem_toArray, List.getElem_cons_zero, List.getElem_cons_succ, List.setIfInBounds_toArray, List.set_cons_zero, List.set_cons_succ])
      refine wpAnyH_take (i := 6) (v := ?_) rfl (by kernel_rfl) (by kernel_rfl) (by kernel_rfl) (fun _ _ _ h => h) (Or.inl ⟨by kernel_rfl, ?_⟩) (by assumption) ?_
      rotate_left
      · (intro w hSw; (try dsimp only at hSw); go_simp) <;> with_reducible rfl
      (try simp only [Act.put, List.getElem_toArray, List.getElem_cons_zero, List.getElem_cons_succ, List.setIfInBounds_toArray, List.set_cons_zero, List.set_cons_succ])
      refine wpAnyH_take (i := 7) (v := ?_) rfl (by kernel_rfl) (by kernel_rfl) (by kernel_rfl) (fun _ _ _ h => h) (Or.inl ⟨by kernel_rfl, ?_⟩) (by assumption) ?_
      rotate_left
      · (intro w hSw; (try dsimp only at hSw); go_simp) <;> with_reducible rfl
      (try simp only [Act.put, List.getElem_toArray, List.getElem_cons_zero, List.getElem_cons_succ, List.setIfInBounds_toArray, List.set_cons_zero, List.set_cons_succ])
      refine wpAnyH_take (i := 8) (v := ?_) rfl (by kernel_rfl) (by kernel_rfl) (by kernel_rfl) (fun _ _ _ h => h) (Or.inl ⟨by kernel_rfl, ?_⟩) (by assumption) ?_
      rotate_left
      · (intro w hSw; (try dsimp only at hSw); go_simp) <;> with_reducible rfl
      (try simp only [Act.put, List.getElem_toArray, List.getElem_cons_zero, List.getElem_cons_succ, List.setIfInBounds_toArray, List.set_cons_zero, List.set_cons_succ])
      refine wpAnyH_take (i := 9) (v := ?_) rfl (by kernel_rfl) (by kernel_rfl) (by kernel_rfl) (fun _ _ _ h => h) (Or.inl ⟨by kernel_rfl, ?_⟩) (by assumption) ?_
      rotate_left
      · (intro w hSw; (try dsimp only at hSw); go_simp) <;> with_reducible rfl
      (try simp only [Act.put, List.getElem_toArray, List.getElem_cons_zero, List.getElem_cons_succ, List.setIfInBounds_toArray, List.set_cons_zero, List.set_cons_succ])
      refine wpAnyH_take (i := 10) (v := ?_) rfl (by kernel_rfl) (by kernel_rfl) (by kernel_rfl) (fun _ _ _ h => h) (Or.inl ⟨by kernel_rfl, ?_⟩) (by assumption) ?_
      rotate_left
      · (intro w hSw; (try dsimp only at hSw); go_simp) <;> with_reducible rfl
      (try simp only [Act.put, List.getElem_toArray, List.getElem_cons_zero, List.getElem_cons_succ, List.setIfInBounds_toArray, List.set_cons_zero, List.set_cons_succ])
      refine wpAnyH_take (i := 11) (v := ?_) rfl (by kernel_rfl) (by kernel_rfl) (by kernel_rfl) (fun _ _ _ h => h) (Or.inl ⟨by kernel_rfl, ?_⟩) (by assumption) ?_
      rotate_left
      · (intro w hSw; (try dsimp only at hSw); go_simp) <;> with_reducible rfl
      (try simp only [Act.put, List.getElem_toArray, List.getElem_cons_zero, List.getElem_cons_succ, List.setIfInBounds_toArray, List.set_cons_zero, List.set_cons_succ])
      refine wpAnyH_take (i := 12) (v := ?_) rfl (by kernel_rfl) (by kernel_rfl) (by kernel_rfl) (fun _ _ _ h => h) (Or.inl ⟨by kernel_rfl, ?_⟩) (by assumption) ?_
      rotate_left
      · (intro w hSw; (try dsimp only at hSw); go_simp) <;> with_reducible rfl
      (try simp only [Act.put, List.getElem_toArray, List.getElem_cons_zero, List.getElem_cons_succ, List.setIfInBounds_toArray, List.set_cons_zero, List.set_cons_succ])
      refine wpAnyH_take (i := 13) (v := ?_) rfl (by kernel_rfl) (by kernel_rfl) (by kernel_rfl) (fun _ _ _ h => h) (Or.inl ⟨by kernel_rfl, ?_⟩) (by assumption) ?_
      rotate_left
      · (intro w hSw; (try dsimp only at hSw); go_simp) <;> with_reducible rfl
      (try simp only [Act.put, List.getElem_toArray, List.getElem_cons_zero, List.getElem_cons_succ, List.setIfInBounds_toArray, List.set_cons_zero, List.set_cons_succ])
      refine wpAnyH_take (i := 14) (v := ?_) rfl (by kernel_rfl) (by kernel_rfl) (by kernel_rfl) (fun _ _ _ h => h) (Or.inl ⟨by kernel_rfl, ?_⟩) (by assumption) ?_
      rotate_left
      · (intro w hSw; (try dsimp only at hSw); go_simp) <;> with_reducible rfl
      (try simp only [Act.put, List.getElem_toArray, List.getElem_cons_zero, List.getElem_cons_succ, List.setIfInBounds_toArray, List.set_cons_zero, List.set_cons_succ])
      refine wpAnyH_take (i := 15) (v := ?_) rfl (by kernel_rfl) (by kernel_rfl) (by kernel_rfl) (fun _ _ _ h => h) (Or.inl ⟨by kernel_rfl, ?_⟩) (by assumption) ?_
      rotate_left
      · (intro w hSw; (try dsimp only at hSw); go_simp) <;> with_reducible rfl
      (try simp only [Act.put, List.getElem_toArray, List.getElem_cons_zero, List.getElem_cons_succ, List.setIfInBounds_toArray, List.set_cons_zero, List.set_cons_succ])
      refine wpAnyH_take (i := 16) (v := ?_) rfl (by kernel_rfl) (by kernel_rfl) (by kernel_rfl) (fun _ _ _ h => h) (Or.inl ⟨by kernel_rfl, ?_⟩) (by assumption) ?_
      rotate_left
      · (intro w hSw; (try dsimp only at hSw); go_simp) <;> with_reducible rfl
      (try simp only [Act.put, List.getElem_toArray, List.getElem_cons_zero, List.getElem_cons_succ, List.setIfInBounds_toArray, List.set_cons_zero, List.set_cons_succ])
      refine wpAnyH_take (i := 17) (v := ?_) rfl (by kernel_rfl) (by kernel_rfl) (by kernel_rfl) (fun _ _ _ h => h) (Or.inl ⟨by kernel_rfl, ?_⟩) (by assumption) ?_
      rotate_left
      · (intro w hSw; (try dsimp only at hSw); go_simp) <;> with_reducible rfl
      (try simp only [Act.put, List.getElem_toArray, List.getElem_cons_zero, List.getElem_cons_succ, List.setIfInBounds_toArray, List.set_cons_zero, List.set_cons_succ])
      refine wpAnyH_take (i := 18) (v := ?_) rfl (by kernel_rfl) (by kernel_rfl) (by kernel_rfl) (fun _ _ _ h => h) (Or.inl ⟨by kernel_rfl, ?_⟩) (by assumption) ?_
      rotate_left
      · (intro w hSw; (try dsimp only at hSw); go_simp) <;> with_reducible rfl
      (try simp only [Act.put, List.getElem_toArray, List.getElem_cons_zero, List.getElem_cons_succ, List.setIfInBounds_toArray, List.set_cons_zero, List.set_cons_succ])
      refine wpAnyH_take (i := 19) (v := ?_) rfl (by kernel_rfl) (by kernel_rfl) (by kernel_rfl) (fun _ _ _ h => h) (Or.inl ⟨by kernel_rfl, ?_⟩) (by assumption) ?_
      rotate_left
      · (intro w hSw; (try dsimp only at hSw); go_simp) <;> with_reducible rfl
      (try simp only [Act.put, List.getElem_toArray, List.getElem_cons_zero, List.getElem_cons_succ, List.setIfInBounds_toArray, List.set_cons_zero, List.set_cons_succ])
      refine wpAnyH_take (i := 20) (v := ?_) rfl (by kernel_rfl) (by kernel_rfl) (by kernel_rfl) (fun _ _ _ h => h) (Or.inl ⟨by kernel_rfl, ?_⟩) (by assumption) ?_
      rotate_left
      · (intro w hSw; (try dsimp only at hSw); go_simp) <;> with_reducible rfl
      (try simp only [Act.put, List.getElem_toArray, List.getElem_cons_zero, List.getElem_cons_succ, List.setIfInBounds_toArray, List.set_cons_zero, List.set_cons_succ])
      refine wpAnyH_take (i := 21) (v := ?_) rfl (by kernel_rfl) (by kernel_rfl) (by kernel_rfl) (fun _ _ _ h => h) (Or.inl ⟨by kernel_rfl, ?_⟩) (by assumption) ?_
      rotate_left
      · (intro w hSw; (try dsimp only at hSw); go_simp) <;> with_reducible rfl
      (try simp only [Act.put, List.getElem_toArray, List.getElem_cons_zero, List.getElem_cons_succ, List.setIfInBounds_toArray, List.set_cons_zero, List.set_cons_succ])
      refine wpAnyH_take (i := 22) (v := ?_) rfl (by kernel_rfl) (by kernel_rfl) (by kernel_rfl) (fun _ _ _ h => h) (Or.inl ⟨by kernel_rfl, ?_⟩) (by assumption) ?_
      rotate_left
      · (intro w hSw; (try dsimp only at hSw); go_simp) <;> with_reducible rfl
      (try simp only [Act.put, List.getElem_toArray, List.getElem_cons_zero, List.getElem_cons_succ, List.setIfInBounds_toArray, List.set_cons_zero, List.set_cons_succ])
      refine wpAnyH_take (i := 23) (v := ?_) rfl (by kernel_rfl) (by kernel_rfl) (by kernel_rfl) (fun _ _ _ h => h) (Or.inl ⟨by kernel_rfl, ?_⟩) (by assumption) ?_
      rotate_left
      · (intro w hSw; (try dsimp only at hSw); go_simp) <;> with_reducible rfl
      (try simp only [Act.put, List.getElem_toArray, List.getElem_cons_zero, List.getElem_cons_succ, List.setIfInBounds_toArray, List.set_cons_zero, List.set_cons_succ])
      refine wpAnyH_take (i := 24) (v := ?_) rfl (by kernel_rfl) (by kernel_rfl) (by kernel_rfl) (fun _ _ _ h => h) (Or.inl ⟨by kernel_rfl, ?_⟩) (by assumption) ?_
      rotate_left
      · (intro w hSw; (try dsimp only at hSw); go_simp) <;> with_reducible rfl
      (try simp only [Act.put, List.getElem_toArray, List.getElem_cons_zero, List.getElem_cons_succ, List.setIfInBounds_toArray, List.set_cons_zero, List.set_cons_succ])
      refine wpAnyH_ready (rs := [25]) (by kernel_rfl) (by simp) ?_
      refine AllReadyH.cons rfl (fun K hK => ?_) AllReadyH.nil
      go_simp
      refine hK.out _ _ hs1 (fun hHeld => ?_)
      clear hK K
      (try simp only [Act.put, List.getElem_toArray, List.getElem_cons_zero, List.getElem_cons_succ, List.setIfInBounds_toArray, List.set_cons_zero, List.set_cons_succ])
      refine wpAnyH_ready (rs := [26]) (by kernel_rfl) (by simp) ?_
      refine AllReadyH.cons rfl (fun K hK => ?_) AllReadyH.nil
      refine wp_append_eq _ _ _ rfl _ _ _ rfl rfl HRun1 ?_
      refine hK.out _ _ hs2 (fun hHeld => ?_)
      clear hK K
      (try simp only [Act.put, List.getElem_toArray, List.getElem_cons_zero, List.getElem_cons_succ, List.setIfInBounds_toArray, List.set_cons_zero, List.set_cons_succ])
      refine wpAnyH_take (i := 27) (v := ?_) rfl (by kernel_rfl) (by kernel_rfl) (by kernel_rfl) (fun _ _ _ h => h) (Or.inl ⟨by kernel_rfl, ?_⟩) (by assumption) ?_
      rotate_left
      · (intro w hSw; (try dsimp only at hSw); go_simp) <;> with_reducible rfl
      (try simp only [Act.put, List.getElem_toArray, List.getElem_cons_zero, List.getElem_cons_succ, List.setIfInBounds_toArray, List.set_cons_zero, List.set_cons_succ])
      refine wpAnyH_done (by kernel_rfl) ?_ _
      clear hHeld HRun1 d0 d1 d2 hs1 hs2
      go_wp2
      go_roundw
      case rel => exact ⟨i + 1, a1, nk + 3, c1, by omega, by go_num, rfl, HN.out, HO.out, HU1.out⟩
      case measure => simp [intOf]; omega
    · have i1 : decide ((i : Int) < 8) = false := decide_eq_false (by omega)
      have hi8 : i = 8 := by omega
      rw [hi8] at hown
      have HO : Hid (wr.ownsRow w.heap.size 76 1 (.slice ak nk ck) (encT T 8).length (uvs (encT T 8))) := hown
      clear hown hU hnk hi8
      go_wp2
      go_ret
      exact ⟨_, rfl, HO.out, HU.out.bel⟩
end Go.Proofs.Ytfcpcncafopobaa
