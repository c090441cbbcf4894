/- The kernel of blocks: its cache's Get and Put; Get, Put. -/
import Derived.Test.YtfnafjddajgahabXdB
import Derived.Deep.RegionHeld3
import Derived.Deep.AppendLies
namespace Go.Proofs.Ytfnafjddajgahab
open Go.RowKit Ca
set_option linter.unusedVariables false

section
variable {w w' : World} {K : Nat} {Y : Yd} {n m : Nat} {vs : List Int} {l : Lines} {T : Tab}
theorem slice_nil_no (g cap k : Nat) (W : World) : (binOp BinOp.eql 29 (.slice (some ⟨g, 0, none⟩) k cap) (.slice none 0 0)).run Try.prog W = .ok (.bool false) W := by kernel_rfl
theorem slice_nil_yes (W : World) : (binOp BinOp.eql 29 (.slice none 0 0) (.slice none 0 0)).run Try.prog W = .ok (.bool true) W := by kernel_rfl
theorem URow.has {M : Nat} {v : Value} {ws : List Int} (h : URow M w v ws) (hl : ws.length = 32) : ∃ g cap, v = .slice (some ⟨g, 0, none⟩) 32 cap ∧ ∀ (j : Nat) (x : Int), ws[j]? = some x → w.cell? ⟨g, 0 + j, none⟩ = some (.int .u64 x) := by
  obtain ⟨a, cap, e, _, _, hf⟩ := h
  obtain ⟨g, cur, rfl, _, hh, hc⟩ := hf (by intro e; rw [e] at hl; simp at hl)
  rw [hl] at e
  exact ⟨g, cap, e, fun j x hx => by rw [cell_of_heap hh, Nat.zero_add]; exact hc j x hx⟩
/-- slices.Clone of a block's words. -/
theorem xclone_at (g cap : Nat) (ws : List Int) (hl : ws.length = 32) (hx : ∀ (j : Nat) (x : Int), ws[j]? = some x → w.cell? ⟨g, 0 + j, none⟩ = some (.int .u64 x)) :
    Calls Try.prog 44 #[.slice (some ⟨g, 0, none⟩) 32 cap] w fun e w' => ∃ gg cap', e = .returned (.slice (some ⟨gg, 0, none⟩) 32 cap') ∧ URow w.heap.size w' (.slice (some ⟨gg, 0, none⟩) 32 cap') ws ∧ Below w.heap.size w w' := by
  refine (Di.clone_at g 0 32 cap ws w hl (by omega) (by omega) hx).mono ?_
  rintro e w' ⟨gg, cap', he, hown, hb⟩
  exact ⟨gg, cap', he, urow_of_own (by rw [hl]; exact hown), hb⟩
theorem xcloneO_at (g o cap : Nat) (ws : List Int) (hl : ws.length = 32) (hx : ∀ (j : Nat) (x : Int), ws[j]? = some x → w.cell? ⟨g, o + j, none⟩ = some (.int .u64 x)) :
    Calls Try.prog 44 #[.slice (some ⟨g, o, none⟩) 32 cap] w fun e w' => ∃ gg cap', e = .returned (.slice (some ⟨gg, 0, none⟩) 32 cap') ∧ URow w.heap.size w' (.slice (some ⟨gg, 0, none⟩) 32 cap') ws ∧ Below w.heap.size w w' := by
  refine (Di.clone_at g o 32 cap ws w hl (by omega) (by omega) hx).mono ?_
  rintro e w' ⟨gg, cap', he, hown, hb⟩
  exact ⟨gg, cap', he, urow_of_own (by rw [hl]; exact hown), hb⟩
/-- Which functions a disk's methods are, asked through an interface. -/
theorem meth_get (b : Nat) (W : World) : (method 224 73 (ptr b) "Get").run Try.prog W = .ok (72, ptr b) W := by kernel_rfl
theorem meth_put (b : Nat) (W : World) : (method 224 73 (ptr b) "Put").run Try.prog W = .ok (74, ptr b) W := by kernel_rfl
theorem ahead_get (b : Nat) (W : World) : (nilAhead 224 73 (ptr b) "Get").run Try.prog W = .ok (some false) W := by kernel_rfl
theorem ahead_put (b : Nat) (W : World) : (nilAhead 224 73 (ptr b) "Put").run Try.prog W = .ok (some false) W := by kernel_rfl
theorem updQ {w1 : World} (h : Upd Y.q w w1) : UpdP (XFoot Y) w w1 := h.p _ (Or.inl rfl)
theorem updB {w1 : World} (h : Upd Y.b w w1) : UpdP (XFoot Y) w w1 := h.p _ (Or.inr (Or.inl rfl))

set_option maxHeartbeats 1000000 in
set_option maxRecDepth 100000 in
theorem xcget_at (h : KAt w K Y n m vs l T) (b : Nat) (hb : b < n) (hm : m ≤ 900000) :
    Calls Try.prog 33 #[.pointer (some ⟨K, 1, none⟩), .int .i64 b] w fun x w' => ∃ gg cap, x = .returned (.tuple #[.slice (some ⟨gg, 0, none⟩) 32 cap, .int .i64 0]) ∧ URow w.heap.size w' (.slice (some ⟨gg, 0, none⟩) 32 cap) (lookW l vs b) ∧ KAt w' K Y n (m + 1) vs (getL l vs b) T ∧ UpdP (XFoot Y) w w' := by
  obtain ⟨v, c0, c1, hv⟩ := h.lines.cell hb
  have k1 := h.k1
  have k2 := h.k2
  have ib : (b : Int) < (n : Int) := by omega
  have HH : Hid _ := h
  have HL : Hid _ := lookW_len h.linv h.len hb
  cases hl : (l b).1 with
  | some ws =>
    have hW : lookW l vs b = ws := by unfold lookW; rw [hl]; rfl
    have hG : getL l vs b = l := by
      unfold getL
      rw [hW]
      funext i
      by_cases e : i = b
      · subst e; rw [Lines.set_same, ← hl]
      · rw [Lines.set_other _ _ _ _ e]
    rw [hW] at HL
    obtain ⟨g, cap, rfl, hx⟩ := (hv.2 ws hl).has HL.out
    have hcl := xclone_at g cap ws HL.out hx
    have HW : Hid _ := hW
    have HG : Hid _ := hG
    clear hW hG hx hv h hl
    have hnil := slice_nil_no g cap 32
    go_enter Try.func33, Try.ntmps33
    go_wp2_with fail
    refine hcl.mono ?_
    rintro x w1 ⟨gg, cap', rfl, hr1, hb1⟩
    have HR : Hid _ := hr1
    have HB : Hid _ := hb1
    clear hr1 hb1 hcl
    go_wp2
    go_ret2
    exact ⟨gg, cap', rfl, by rw [HW.out]; exact HR.out, by rw [HG.out]; exact (HH.out.below HB.out).mono (by omega), UpdP.of_below HB.out⟩
  | none =>
    have hvn := hv.1 hl
    subst hvn
    obtain ⟨gt, pt, hd, hgt, hpt⟩ := h.disk
    have hget := Di.get_at Y.b Y.g n vs gt pt b w hd (by omega) (by omega) (by omega)
    have hnil := slice_nil_yes
    have hme := meth_get Y.b
    have HLn : Hid _ := hl
    simp only [Int.toNat_natCast] at hget
    clear hv hd h hl
    go_enter Try.func33, Try.ntmps33
    go_wp2_with fail
    refine hget.mono ?_
    rintro x w1 ⟨g1, rfl, hr1, hd1, hu1⟩
    have hK1 := HH.out.updD (m' := m + 1) hd1 (by omega) (by omega) (hu1.p _ (Or.inl rfl))
    obtain ⟨v1, d0, d1, hv1⟩ := hK1.lines.cell hb
    have hfz := hK1.lines.free (b * 2)
    have HW : Hid (lookW l vs b = frameOf vs b) := by show _ = _; unfold lookW; rw [HLn.out]; rfl
    rw [HW.out] at HL
    have hLa := hK1.lines.setW hb (.slice (some ⟨g1, 0, none⟩) 32 32) (some (frameOf vs b)) ⟨fun e => (by cases e), fun ws e => by cases e; exact hr1.mono HH.out.ML⟩
    have hK2 := hK1.updL hLa (hK1.linv.set _ _ _ HL.out) (Upd.setCell _ _ _ _)
    have hr2 := hr1.keepT ((Upd.setCell Y.q (b * 2) w1 (.slice (some ⟨g1, 0, none⟩) 32 32)).p (fun k => k = Y.q) rfl) (fun k e => hK1.noW k (Or.inl e))
    have HU2 : Hid (UpdP (XFoot Y) w (w1.setCell ⟨Y.q, b * 2, none⟩ (.slice (some ⟨g1, 0, none⟩) 32 32))) := (updB hu1).trans (updQ (Upd.setCell _ _ _ _))
    have HK2 : Hid _ := hK2
    obtain ⟨g1', cap1, e1, hx⟩ := hr2.has HL.out
    have hcl := xclone_at g1 32 (frameOf vs b) HL.out (by
      simp only [Value.slice.injEq, Option.some.injEq, Addr.mk.injEq] at e1
      obtain ⟨⟨e2, _⟩, _⟩ := e1
      subst e2
      exact hx)
    have HS1 : Hid _ := hu1.size
    clear hr1 hd1 hu1 hK1 hLa hK2 hr2 hx hv1 e1 hget d1
    go_wp2_with fail
    refine hcl.mono ?_
    rintro x w2 ⟨gg, cap', rfl, hr3, hb3⟩
    have HB3 : Hid _ := hb3
    have HR3 : Hid _ := hr3
    clear hr3 hb3 hcl
    go_wp2
    go_ret2
    refine ⟨gg, cap', rfl, ?_, ?_, HU2.out.trans (UpdP.of_below HB3.out)⟩
    · rw [HW.out]
      exact URow.mono HR3.out (by have := HS1.out; simp [World.setCell]; omega)
    · have := HK2.out.below HB3.out
      rw [← HW.out] at this
      exact this

set_option maxHeartbeats 1000000 in
set_option maxRecDepth 100000 in
theorem xcput_no (h : KAt w K Y n m vs l T) (b : Int) (a : Option Addr) (k cap : Nat) (hk : k ≠ 32) :
    Calls Try.prog 30 #[.pointer (some ⟨K, 1, none⟩), .int .i64 b, .slice a k cap] w fun x w' => x = .returned (.int .i64 101) ∧ w' = w := by
  have h1 : ((k : Int) != 32) = true := by simp; omega
  clear h
  go_enter Try.func30, Try.ntmps30
  go_wp2
  go_ret
  exact ⟨rfl, rfl⟩
set_option maxHeartbeats 1000000 in
set_option maxRecDepth 100000 in
theorem xcputR_at {v : Value} {ws : List Int} (h : KAt w K Y n m vs l T) (b : Nat) (hb : b < n) (hv : RdV w v ws) (hl : ws.length = 32) :
    Calls Try.prog 30 #[.pointer (some ⟨K, 1, none⟩), .int .i64 b, v] w fun x w' => x = .returned (.int .i64 0) ∧ KAt w' K Y n m vs (putL l b ws) T ∧ UpdP (XFoot Y) w w' := by
  have k2 := h.k2
  have ib : (b : Int) < (n : Int) := by omega
  have HH : Hid _ := h
  have HL : Hid _ := hl
  obtain ⟨g, o, cap, hve, hx⟩ := hv.has 31 hl
  have hve' : v = .slice (some ⟨g, o, none⟩) 32 cap := hve
  subst hve'
  clear hve
  have hcl := xcloneO_at (w := w.drew) g o cap ws hl hx
  clear h hv hx hl
  go_enter Try.func30, Try.ntmps30
  go_wp2_with fail
  refine wp_region_held_drew (S := fun w' => w'.cell? ⟨K, 2, none⟩ = some (.slice (some ⟨Y.q, 0, none⟩) n n)) (by kernel_rfl) k2 (fun hHeld => ?_)
  refine wpAnyH_take (i := 0) (v := ?_) rfl (by kernel_rfl) (by kernel_rfl) (by kernel_rfl) (fun _ _ _ h => h) (Or.inl ⟨by kernel_rfl, ?_⟩) (by assumption) ?_
  rotate_left
  · (intro w hSw; (try dsimp only at hSw); go_simp) <;> with_reducible rfl
  (try simp only [Act.put, List.getElem_toArray, List.getElem_cons_zero, List.setIfInBounds_toArray, List.set_cons_zero, List.set_cons_succ])
  refine wpAnyH_take (i := 1) (v := ?_) rfl (by kernel_rfl) (by kernel_rfl) (by kernel_rfl) (fun _ _ _ h => h) (Or.inl ⟨by kernel_rfl, ?_⟩) (by assumption) ?_
  rotate_left
  · (intro w hSw; (try dsimp only at hSw); go_simp) <;> with_reducible rfl
  (try simp only [Act.put, List.getElem_toArray, List.getElem_cons_zero, List.getElem_cons_succ, List.setIfInBounds_toArray, List.set_cons_zero, List.set_cons_succ])
  refine wpAnyH_take (i := 2) (v := ?_) rfl (by kernel_rfl) (by kernel_rfl) (by kernel_rfl) (fun _ _ _ h => h) (Or.inl ⟨by kernel_rfl, ?_⟩) (by assumption) ?_
  rotate_left
  · (intro w hSw; (try dsimp only at hSw); go_simp) <;> with_reducible rfl
  (try simp only [Act.put, List.getElem_toArray, List.getElem_cons_zero, List.getElem_cons_succ, List.setIfInBounds_toArray, List.set_cons_zero, List.set_cons_succ])
  refine wpAnyH_take (i := 3) (v := ?_) rfl (by kernel_rfl) (by kernel_rfl) (by kernel_rfl) (fun _ _ _ h => h) (Or.inl ⟨by kernel_rfl, ?_⟩) (by assumption) ?_
  rotate_left
  · (intro w hSw; (try dsimp only at hSw); go_simp) <;> with_reducible rfl
  (try simp only [Act.put, List.getElem_toArray, List.getElem_cons_zero, List.getElem_cons_succ, List.setIfInBounds_toArray, List.set_cons_zero, List.set_cons_succ])
  refine wpAnyH_take (i := 4) (v := ?_) rfl (by kernel_rfl) (by kernel_rfl) (by kernel_rfl) (fun _ _ _ h => h) (Or.inl ⟨by kernel_rfl, ?_⟩) (by assumption) ?_
  rotate_left
  · (intro w hSw; (try dsimp only at hSw); go_simp) <;> with_reducible rfl
  (try simp only [Act.put, List.getElem_toArray, List.getElem_cons_zero, List.getElem_cons_succ, List.setIfInBounds_toArray, List.set_cons_zero, List.set_cons_succ])
  refine wpAnyH_take (i := 5) (v := ?_) rfl (by kernel_rfl) (by kernel_rfl) (by kernel_rfl) (fun _ _ _ h => h) (Or.inl ⟨by kernel_rfl, ?_⟩) (by assumption) ?_
  rotate_left
  · (intro w hSw; (try dsimp only at hSw); go_simp) <;> with_reducible rfl
  (try simp only [Act.put, List.getElem_toArray, List.getElem_cons_zero, List.getElem_cons_succ, List.setIfInBounds_toArray, List.set_cons_zero, List.set_cons_succ])
  refine wpAnyH_ready (rs := [6]) (by kernel_rfl) (by simp) ?_
  refine AllReadyH.cons rfl (fun K hK => ?_) AllReadyH.nil
  go_simp
  refine hcl.mono ?_
  rintro x w1 ⟨gg, cap', rfl, hr1, hb1⟩
  have hB1 : Below w.heap.size w w1 := ⟨hb1.os, hb1.tape, hb1.output, hb1.size, hb1.block⟩
  have hK1 := HH.out.below hB1
  refine hK.out _ _ hK1.k2 (fun hHeld => ?_)
  clear hK K
  (try simp only [Act.put, List.getElem_toArray, List.getElem_cons_zero, List.getElem_cons_succ, List.setIfInBounds_toArray, List.set_cons_zero, List.set_cons_succ])
  refine wpAnyH_take (i := 7) (v := ?_) rfl (by kernel_rfl) (by kernel_rfl) (by kernel_rfl) (fun _ _ _ h => h) (Or.inl ⟨by kernel_rfl, ?_⟩) (by assumption) ?_
  rotate_left
  · (intro w hSw; (try dsimp only at hSw); go_simp) <;> with_reducible rfl
  (try simp only [Act.put, List.getElem_toArray, List.getElem_cons_zero, List.getElem_cons_succ, List.setIfInBounds_toArray, List.set_cons_zero, List.set_cons_succ])
  refine wpAnyH_take (i := 8) (v := ?_) rfl (by kernel_rfl) (by kernel_rfl) (by kernel_rfl) (fun _ _ _ h => h) (Or.inl ⟨by kernel_rfl, ?_⟩) (by assumption) ?_
  rotate_left
  · (intro w hSw; (try dsimp only at hSw); go_simp) <;> with_reducible rfl
  (try simp only [Act.put, List.getElem_toArray, List.getElem_cons_zero, List.getElem_cons_succ, List.setIfInBounds_toArray, List.set_cons_zero, List.set_cons_succ])
  obtain ⟨v1, d0, d1, hv1⟩ := hK1.lines.cell hb
  have hfz := hK1.lines.free (b * 2)
  have hfz1 := hK1.lines.free (b * 2 + 1)
  have hLa := hK1.lines.set hb (.slice (some ⟨gg, 0, none⟩) 32 cap') (some ws, true) ⟨fun e => (by cases e), fun ws' e => by cases e; exact hr1.mono HH.out.ML⟩
  have hU : Upd Y.q w1 ((w1.setCell ⟨Y.q, b * 2, none⟩ (.slice (some ⟨gg, 0, none⟩) 32 cap')).setCell ⟨Y.q, b * 2 + 1, none⟩ (.bool true)) := (Upd.setCell _ _ _ _).trans (Upd.setCell _ _ _ _)
  have hK2 := hK1.updL hLa (hK1.linv.set _ _ _ HL.out) hU
  have HK2 : Hid (KAt _ K Y n m vs (putL l b ws) T) := hK2
  have HU : Hid (UpdP (XFoot Y) w _) := (UpdP.of_below hB1).trans (updQ hU)
  clear hK1 hLa hU hK2 hr1 hb1 hB1 hv1 hcl
  refine wpAnyH_ready (rs := [9]) (by kernel_rfl) (by simp) ?_
  refine AllReadyH.cons rfl (fun K hK => ?_) AllReadyH.nil
  go_simp
  refine hK.out _ _ HK2.out.k2 (fun hHeld => ?_)
  clear hK K
  (try simp only [Act.put, List.getElem_toArray, List.getElem_cons_zero, List.getElem_cons_succ, List.setIfInBounds_toArray, List.set_cons_zero, List.set_cons_succ])
  refine wpAnyH_done (by kernel_rfl) ?_ _
  go_wp2
  go_ret
  exact ⟨rfl, HK2.out, HU.out⟩
theorem xcput_at {M : Nat} {v : Value} {ws : List Int} (h : KAt w K Y n m vs l T) (b : Nat) (hb : b < n) (hv : URow M w v ws) (hl : ws.length = 32) :
    Calls Try.prog 30 #[.pointer (some ⟨K, 1, none⟩), .int .i64 b, v] w fun x w' => x = .returned (.int .i64 0) ∧ KAt w' K Y n m vs (putL l b ws) T ∧ UpdP (XFoot Y) w w' := xcputR_at h b hb hv.rdv hl
end
end Go.Proofs.Ytfnafjddajgahab
