/- The contracts of the reference memory's Zero and Copy: loops over a row's words. -/
import Derived.Test.YtnpgkhlidngngaaRefA
import Derived.BigRegion
namespace Go.Proofs.Ytnpgkhlidngngaa
open Go.RowKit
set_option linter.unusedVariables false

theorem splice_nil (vs : List Int) (o : Nat) : splice vs o [] = vs := by simp [splice]
theorem splice_snoc (vs : List Int) (o : Nat) (ws : List Int) (v : Int) (h : o + ws.length < vs.length) : (splice vs o ws).set (o + ws.length) v = splice vs o (ws ++ [v]) := by
  apply list_ext_getD
  · simp [splice]; omega
  · intro i hi
    have hl := splice_length vs o ws (by omega)
    rw [set_getD _ _ _ _ (by rw [hl]; exact h), splice_getD _ _ _ (by omega), splice_getD _ _ _ (by simp; omega)]
    simp only [List.length_append, List.length_singleton, List.getD_eq_getElem?_getD]
    grind (splits := 30)

set_option maxHeartbeats 1000000 in
theorem rzero_at (bx gx cap n : Nat) (rs : List Nat) (vs : List Int) (f : Int) (w : World) (h : RefAt w bx gx cap n rs vs) (h0 : 0 ≤ f) (h1 : f < n) :
    Calls Try.prog 17 #[.pointer (some ⟨bx, 0, none⟩), .int .i64 f] w fun e w' => e = .returned (.int .i64 0) ∧
      RefAt w' bx gx cap n rs (splice vs (f.toNat * 32) (List.replicate 32 0)) ∧ UpdP (Rows? n rs) w w' := by
  obtain ⟨f, rfl⟩ := nat_of f h0
  simp only [Int.toNat_natCast]
  have HH : Hid _ := h
  go_enter Try.func17, Try.ntmps17
  go_wp2_with (go_at_call 24; refine (rhas_yes bx gx cap n rs vs f _ h h0 h1).mono ?_; rintro e w' ⟨rfl, rfl⟩)
  clear h
  go_loopw [5] (fun i wr => ∃ k : Nat, k ≤ 32 ∧ i = .int .i64 k ∧ RefAt wr bx gx cap n rs (splice vs (f * 32) (List.replicate k 0)) ∧ UpdP (Rows? n rs) w' wr) (fun i _ => 32 - (intOf i).toNat)
  case atStart => exact ⟨0, Nat.zero_le _, rfl, by rw [List.replicate_zero, splice_nil]; exact HH.out, UpdP.refl _ _⟩
  case round =>
    obtain ⟨k, hk, rfl, hm, hu⟩ := hrel
    by_cases hlt : k < 32
    · have hc := hm.cell
      have ht := hm.tab f (by omega)
      have hv := hm.word f k (by omega) hlt
      have hz := hm.free f k (by omega)
      have hs := hm.set f k 0 (by omega) hlt
      have hl := (HH.out).len
      have es := splice_snoc vs (f * 32) (List.replicate k 0) 0 (by rw [List.length_replicate, hl]; omega)
      rw [List.length_replicate, ← List.replicate_succ'] at es
      rw [es] at hs
      have hu2 := hu.trans (UpdP.row n rs f k (by omega) wr (.int .u64 0))
      have HS : Hid _ := hs
      have HU : Hid _ := hu2
      clear hs hu2 es hm hu hl
      generalize rs.getD f 0 = r at *
      go_wp2
      go_roundw
      case rel => exact ⟨k + 1, by omega, by go_num, HS.out, HU.out⟩
      case measure => simp [intOf]; omega
    · have : k = 32 := by omega
      subst this
      have HM : Hid _ := hm
      have HU : Hid _ := hu
      clear hm hu
      go_wp2
      go_ret
      exact ⟨rfl, HM.out, HU.out⟩

set_option maxHeartbeats 400000 in
theorem rzerono_at (bx gx cap n : Nat) (rs : List Nat) (vs : List Int) (f : Int) (w : World) (h : RefAt w bx gx cap n rs vs) (hno : ¬ (0 ≤ f ∧ f < n)) :
    Calls Try.prog 17 #[.pointer (some ⟨bx, 0, none⟩), .int .i64 f] w fun e w' => e = .returned (.int .i64 101) ∧ w' = w := by
  have HF : Hid _ := hno
  clear hno
  go_enter Try.func17, Try.ntmps17
  go_wp2_with (go_at_call 24; refine (rhas_no bx gx cap n rs vs f _ h HF).mono ?_; rintro e w' ⟨rfl, rfl⟩)
  go_ret
  exact ⟨rfl, rfl⟩

theorem copy_step (vs : List Int) (n t f k : Nat) (hl : vs.length = n * 32) (ht : t < n) (hf : f < n) (hk : k < 32) :
    (splice vs (t * 32) ((frameOf vs f).take k)).getD (f * 32 + k) 0 = (frameOf vs f).getD k 0 ∧
    (splice vs (t * 32) ((frameOf vs f).take k)).set (t * 32 + k) ((frameOf vs f).getD k 0) = splice vs (t * 32) ((frameOf vs f).take (k + 1)) := by
  have hfl := frameOf_length vs f n hl hf
  have htl : ((frameOf vs f).take k).length = k := by rw [List.length_take, hfl]; omega
  constructor
  · rw [splice_getD _ _ _ (by rw [htl, hl]; omega), frameOf_getD _ _ _ hk]
    by_cases e : f = t
    · subst e
      rw [if_neg (by rw [htl]; omega)]
    · rw [if_neg (by rw [htl]; omega)]
  · have es := splice_snoc vs (t * 32) ((frameOf vs f).take k) ((frameOf vs f).getD k 0) (by rw [htl, hl]; omega)
    rw [htl] at es
    rw [es]
    congr 1
    rw [List.take_succ_eq_append_getElem (by rw [hfl]; exact hk)]
    simp [hfl, hk]

set_option maxHeartbeats 2000000 in
theorem rcopy_at (bx gx cap n : Nat) (rs : List Nat) (vs : List Int) (t f : Int) (w : World) (h : RefAt w bx gx cap n rs vs) (h0 : 0 ≤ t) (h1 : t < n) (h2 : 0 ≤ f) (h3 : f < n) :
    Calls Try.prog 15 #[.pointer (some ⟨bx, 0, none⟩), .int .i64 t, .int .i64 f] w fun e w' => e = .returned (.int .i64 0) ∧
      RefAt w' bx gx cap n rs (splice vs (t.toNat * 32) (frameOf vs f.toNat)) ∧ UpdP (Rows? n rs) w w' := by
  obtain ⟨t, rfl⟩ := nat_of t h0
  obtain ⟨f, rfl⟩ := nat_of f h2
  simp only [Int.toNat_natCast]
  have HH : Hid _ := h
  go_enter Try.func15, Try.ntmps15
  go_wp2_with fail
  refine (rhas_yes bx gx cap n rs vs t _ h h0 h1).mono ?_
  rintro e w' ⟨rfl, rfl⟩
  go_wp2_with fail
  refine (rhas_yes bx gx cap n rs vs f _ h h2 h3).mono ?_
  rintro e w' ⟨rfl, rfl⟩
  go_wp2_with fail
  clear h
  go_loopw [7] (fun i wr => ∃ k : Nat, k ≤ 32 ∧ i = .int .i64 k ∧ RefAt wr bx gx cap n rs (splice vs (t * 32) ((frameOf vs f).take k)) ∧ UpdP (Rows? n rs) w' wr) (fun i _ => 32 - (intOf i).toNat)
  case atStart => exact ⟨0, Nat.zero_le _, rfl, by rw [List.take_zero, splice_nil]; exact HH.out, UpdP.refl _ _⟩
  case round =>
    obtain ⟨k, hk, rfl, hm, hu⟩ := hrel
    have hl := (HH.out).len
    by_cases hlt : k < 32
    · obtain ⟨e1, e2⟩ := copy_step vs n t f k hl (by omega) (by omega) hlt
      have hc := hm.cell
      have ht := hm.tab t (by omega)
      have htf := hm.tab f (by omega)
      have hv := hm.word t k (by omega) hlt
      have hvf := hm.word f k (by omega) hlt
      rw [e1] at hvf
      have hz := hm.free t k (by omega)
      have hs := hm.set t k ((frameOf vs f).getD k 0) (by omega) hlt
      rw [e2] at hs
      have hu2 := hu.trans (UpdP.row n rs t k (by omega) wr (.int .u64 ((frameOf vs f).getD k 0)))
      have hs2 : RefAt (wr.setCell ⟨rs.getD t 0, k, none⟩ (.int .u64 ((frameOf vs f).getD k 0))).drew bx gx cap n rs (splice vs (t * 32) ((frameOf vs f).take (k + 1))) := hs.keep rfl rfl (fun _ _ => rfl)
      have hu3 : UpdP (Rows? n rs) w' (wr.setCell ⟨rs.getD t 0, k, none⟩ (.int .u64 ((frameOf vs f).getD k 0))).drew := ⟨hu2.os, hu2.tape, hu2.output, hu2.size, hu2.block⟩
      have HS : Hid _ := hs2
      have HU : Hid _ := hu3
      clear hs hs2 hu2 hu3 e1 e2 hm hu hl
      have b1 : (t : Int) < n := h1
      have b2 : (f : Int) < n := h3
      have b3 : (k : Int) < 32 := by omega
      generalize (frameOf vs f).getD k 0 = x at *
      generalize (splice vs (t * 32) ((frameOf vs f).take k)).getD (t * 32 + k) 0 = y at *
      generalize rs.getD f 0 = r at *
      generalize rs.getD t 0 = r2 at *
      go_wp2
      go_region
      go_wp2
      go_roundw
      case rel => exact ⟨k + 1, by omega, by go_num, HS.out, HU.out⟩
      case measure => simp [intOf]; omega
    · have : k = 32 := by omega
      subst this
      rw [List.take_of_length_le (by rw [frameOf_length vs f n hl (by omega)]; omega)] at hm
      have HM : Hid _ := hm
      have HU : Hid _ := hu
      clear hm hu hl
      go_wp2
      go_ret
      exact ⟨rfl, HM.out, HU.out⟩

set_option maxHeartbeats 400000 in
theorem rcopyno_at (bx gx cap n : Nat) (rs : List Nat) (vs : List Int) (t f : Int) (w : World) (h : RefAt w bx gx cap n rs vs) (hno : ¬ (0 ≤ t ∧ t < n ∧ 0 ≤ f ∧ f < n)) :
    Calls Try.prog 15 #[.pointer (some ⟨bx, 0, none⟩), .int .i64 t, .int .i64 f] w fun e w' => e = .returned (.int .i64 101) ∧ w' = w := by
  by_cases ht : 0 ≤ t ∧ t < n
  · obtain ⟨h0, h1⟩ := ht
    have HF : Hid (¬ (0 ≤ f ∧ f < n)) := fun h => hno ⟨h0, h1, h.1, h.2⟩
    clear hno
    go_enter Try.func15, Try.ntmps15
    go_wp2_with fail
    refine (rhas_yes bx gx cap n rs vs t _ h h0 h1).mono ?_
    rintro e w' ⟨rfl, rfl⟩
    go_wp2_with fail
    refine (rhas_no bx gx cap n rs vs f _ h HF).mono ?_
    rintro e w' ⟨rfl, rfl⟩
    go_wp2_with fail
    go_ret
    exact ⟨rfl, rfl⟩
  · have HF : Hid _ := ht
    clear hno ht
    go_enter Try.func15, Try.ntmps15
    go_wp2_with fail
    refine (rhas_no bx gx cap n rs vs t _ h HF).mono ?_
    rintro e w' ⟨rfl, rfl⟩
    go_wp2_with fail
    go_ret
    exact ⟨rfl, rfl⟩

end Go.Proofs.Ytnpgkhlidngngaa
