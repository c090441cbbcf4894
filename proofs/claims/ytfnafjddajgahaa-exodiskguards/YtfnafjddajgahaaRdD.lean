/- The reference kernel of blocks: Sync. -/
import Derived.Test.YtfnafjddajgahaaRdC
namespace Go.Proofs.Ytfnafjddajgahaa
open Go.RowKit Ca
set_option linter.unusedVariables false

/-- The disk's words when these blocks of the cache were written. -/
def putAll (l : Lines) (vs : List Int) (xs : List Int) : List Int := xs.foldl (fun v a => splice v (a.toNat * 32) ((l a.toNat).1.getD [])) vs
theorem fl_succ (p : Nat → Bool) (n : Nat) : fl p (n + 1) = if p n = true then fl p n ++ [(n : Int)] else fl p n := by
  unfold fl
  rw [List.range_succ, List.filter_append]
  by_cases h : p n = true
  · rw [if_pos h]
    simp [h]
  · rw [if_neg h]
    simp [h]
theorem putAll_sync (l : Lines) (vs : List Int) : ∀ n, putAll l vs (newL l n) = syncV l vs n ∧ (newL l n).length = syncN l n
  | 0 => ⟨rfl, rfl⟩
  | n + 1 => by
    have ih := putAll_sync l vs n
    have hs := fl_succ (fun i => (l i).2) n
    unfold newL at ih ⊢
    rw [hs]
    unfold syncV syncN
    by_cases h : (l n).2 = true
    · rw [if_pos h, if_pos h, if_pos h]
      refine ⟨?_, by rw [List.length_append, ih.2]; rfl⟩
      unfold putAll at ih ⊢
      rw [List.foldl_append, ih.1]
      rfl
    · rw [if_neg h, if_neg h, if_neg h]
      exact ih
theorem putAll_snoc (l : Lines) (vs : List Int) (xs : List Int) (j : Nat) (a : Int) (h : xs[j]? = some a) : putAll l vs (xs.take (j + 1)) = splice (putAll l vs (xs.take j)) (a.toNat * 32) ((l a.toNat).1.getD []) := by
  rw [List.take_add_one, h]
  unfold putAll
  rw [List.foldl_append]
  rfl
theorem in_sync (l : Lines) (n : Nat) : inL (syncL l n) n = inL l n := fl_same (fun i hi => by unfold syncL; rw [if_pos hi])
theorem new_sync (l : Lines) (n : Nat) : newL (syncL l n) n = [] := by
  unfold newL fl
  rw [List.map_eq_nil_iff, List.filter_eq_nil_iff]
  intro i hi
  rw [List.mem_range] at hi
  unfold syncL
  rw [if_pos hi]
  simp
theorem WRow.sync {w : World} {wb n : Nat} {l : Lines} (h : WRow w wb n l) : WRow w wb n (syncL l n) := by
  obtain ⟨row, hr, hs, hc⟩ := h
  refine ⟨row, hr, hs, fun i hi => ?_⟩
  obtain ⟨v, g1, g2⟩ := hc i hi
  refine ⟨v, g1, fun ws e => g2 ws ?_⟩
  unfold syncL at e
  rw [if_pos hi] at e
  exact e

section
variable {w w' : World} {X : Nat} {Q : Rq} {n m : Nat} {vs : List Int} {l : Lines} {L : List Ce} {last : Int} {T : Tab}
set_option maxRecDepth 100000 in
set_option maxHeartbeats 4000000 in
theorem rxsync_at (h : RkX w X Q n m vs l L last) (hn : n ≤ 1000) (hm : m ≤ 900000) :
    Calls Try.prog 79 #[ptr X] w fun x w' => x = .returned (.int .i64 (syncN l n)) ∧ RkX w' X Q n (m + n) (syncV l vs n) (syncL l n) L last ∧ UpdP (RF X Q) w w' := by
  obtain ⟨iv, nv, hx, hi, hnv⟩ := h.head
  obtain ⟨na, ncap, rfl, hrow, hcap⟩ := hnv.row
  have HNV : Hid (IV w (.slice na (newL l n).length ncap) (newL l n)) := hnv
  have HIV : Hid (IV w iv (inL l n)) := hi
  have hlen : (newL l n).length ≤ n := fl_len _ _
  obtain ⟨p1, p2⟩ := putAll_sync l vs n
  have HP1 : Hid _ := p1
  have HP2 : Hid _ := p2
  have HX : Hid _ := hx
  have HH : Hid _ := h
  obtain ⟨x0, -, -, x3, x4⟩ := cells5 hx
  clear h hx hi hnv hrow p1 p2
  obtain ⟨N, hN⟩ : ∃ N, N = newL l n := ⟨_, rfl⟩
  have HN : Hid _ := hN
  rw [← hN] at HNV HP1 HP2 hlen hcap x3 HX
  clear hN
  go_enter Try.func79, Try.ntmps79
  go_wp2
  go_loopw [4] (fun s wr => ∃ (j : Nat), j ≤ N.length ∧ s = .int .i64 j ∧ RkX wr X Q n (m + j) (putAll l vs (N.take j)) l L last ∧ UpdP (fun k => k = Q.dx ∨ k = Q.lb) w wr) (fun s _ => N.length - (intOf s).toNat)
  case atStart => exact ⟨0, by omega, rfl, by simpa [putAll] using HH.out, UpdP.refl _ _⟩
  case round =>
    obtain ⟨j, hj, rfl, hK, hU⟩ := hrel
    have hXn : ¬ (X = Q.dx ∨ X = Q.lb) := by
      obtain ⟨gt, pt, hd, _⟩ := HH.out.disk
      obtain ⟨cur, hh, _⟩ := hd.tab
      rintro (e | e)
      · exact apart HX.out hd.head (by decide) e
      · exact apart HX.out hh (by decide) e
    have hxr := (hU.block _ (lt_of_heap HX.out) hXn).trans HX.out
    have hnot : ∀ k, (k = Q.dx ∨ k = Q.lb) → NoT w k := fun k e => HH.out.noT k (by rcases e with e | e; exact Or.inr (Or.inl e); exact Or.inr (Or.inr (Or.inl e)))
    have hnvr : IV wr (.slice na N.length ncap) N := IV.keepT HNV.out hU (fun k e => (hnot k e).2.1)
    have hivr : IV wr iv (inL l n) := IV.keepT HIV.out hU (fun k e => (hnot k e).2.1)
    by_cases hjl : j < N.length
    · have hg : N[j]? = some N[j] := List.getElem?_eq_getElem hjl
      obtain ⟨a, ha⟩ : ∃ a, a = N[j] := ⟨_, rfl⟩
      rw [← ha] at hg
      have hmem : a ∈ newL l n := by rw [← HN.out, ha]; exact List.getElem_mem hjl
      obtain ⟨f, hfn, hfc, rfl⟩ := fl_mem.1 hmem
      obtain ⟨gn, cur, ea, hh, hc⟩ : ∃ g cur, na = some ⟨g, 0, none⟩ ∧ wr.heap[g]? = some (.cells cur 3 (0, 0)) ∧ ∀ (j : Nat) (x : Int), N[j]? = some x → cur[j]? = some (.int .i64 x) := by
        obtain ⟨a', cap', e', _, hf⟩ := hnvr
        simp only [Value.slice.injEq] at e'
        obtain ⟨rfl, _, _⟩ := e'
        exact hf (by intro e; rw [e] at hjl; simp at hjl)
      subst ea
      have cj : wr.cell? ⟨gn, j, none⟩ = some (.int .i64 f) := by rw [cell_of_heap hh]; exact hc j _ hg
      obtain ⟨ws, hws⟩ := Option.isSome_iff_exists.1 (HH.out.linv.ch f hfn hfc)
      have hl32 := HH.out.linv.len f hfn ws hws
      obtain ⟨row, hr, hs, hcr⟩ := hK.wrow
      obtain ⟨v, g1, g2⟩ := hcr f hfn
      have cv : wr.cell? ⟨Q.wb, f, none⟩ = some v := by rw [cell_of_heap hr]; exact g1
      obtain ⟨gt, pt, hd, hpt⟩ := hK.disk
      have hd2 : Di.RefAt wr.drew Q.dx Q.lb Q.lc n (putAll l vs (N.take j)) gt pt := hd.below ⟨rfl, rfl, rfl, Nat.le_refl _, fun _ _ => rfl⟩
      have hput := Di.rput_any 0 Q.dx Q.lb Q.lc n (putAll l vs (N.take j)) ws gt pt f v wr.drew hd2 (by omega) (by omega) (by omega) (g2 ws hws) hl32
      simp only [Int.toNat_natCast] at hput
      obtain ⟨x0, -, -, x3, x4⟩ := cells5 hxr
      have ij : (j : Int) < ((N.length : Nat) : Int) := by omega
      have ifn : (f : Int) < (n : Int) := by omega
      have HK : Hid _ := hK
      have HU : Hid _ := hU
      have HE : Hid (putAll l vs (N.take (j + 1)) = splice (putAll l vs (N.take j)) (f * 32) ws) := by
        show _ = _
        rw [putAll_snoc l vs N j f hg, Int.toNat_natCast, hws]
        rfl
      have HPt : Hid _ := hpt
      have HCur : Hid _ := hh
      have HRow : Hid _ := hr
      clear hK hU hxr hnot hnvr hivr hmem hg ha hc hh hws hl32 hr hs hcr g1 g2 hd hd2 hpt hXn
      generalize putAll l vs (N.take j) = vsj at *
      generalize hz : N.length = z at *
      clear hz
      go_wp2_with fail
      refine wp_region_held_drew (S := fun w' => w'.cell? ⟨X, 0, none⟩ = some (ptr Q.dx) ∧ w'.cell? ⟨X, 3, none⟩ = some (.slice (some ⟨gn, 0, none⟩) z ncap) ∧ w'.cell? ⟨X, 4, none⟩ = some (.slice (some ⟨Q.wb, 0, none⟩) n n) ∧ w'.cell? ⟨gn, j, none⟩ = some (.int .i64 f) ∧ w'.cell? ⟨Q.wb, f, none⟩ = some v) (by kernel_rfl) ⟨x0, x3, x4, cj, cv⟩ (fun hHeld => ?_)
      refine wpAnyH_take (i := 0) (v := ?_) rfl (by kernel_rfl) (by kernel_rfl) (by kernel_rfl) (fun _ _ _ h => h) (Or.inl ⟨by kernel_rfl, ?_⟩) (by assumption) ?_
      rotate_left
      · (intro w hSw; (try dsimp only at hSw); go_simp) <;> with_reducible rfl
      (try simp only [Act.put, List.getElem_toArray, List.getElem_cons_zero, List.setIfInBounds_toArray, List.set_cons_zero, List.set_cons_succ])
      refine wpAnyH_take (i := 1) (v := ?_) rfl (by kernel_rfl) (by kernel_rfl) (by kernel_rfl) (fun _ _ _ h => h) (Or.inl ⟨by kernel_rfl, ?_⟩) (by assumption) ?_
      rotate_left
      · (intro w hSw; (try dsimp only at hSw); go_simp) <;> with_reducible rfl
      (try simp only [Act.put, List.getElem_toArray, List.getElem_cons_zero, List.getElem_cons_succ, List.setIfInBounds_toArray, List.set_cons_zero, List.set_cons_succ])
      refine wpAnyH_take (i := 2) (v := ?_) rfl (by kernel_rfl) (by kernel_rfl) (by kernel_rfl) (fun _ _ _ h => h) (Or.inl ⟨by kernel_rfl, ?_⟩) (by assumption) ?_
      rotate_left
      · (intro w hSw; (try dsimp only at hSw); go_simp) <;> with_reducible rfl
      (try simp only [Act.put, List.getElem_toArray, List.getElem_cons_zero, List.getElem_cons_succ, List.setIfInBounds_toArray, List.set_cons_zero, List.set_cons_succ])
      refine wpAnyH_take (i := 3) (v := ?_) rfl (by kernel_rfl) (by kernel_rfl) (by kernel_rfl) (fun _ _ _ h => h) (Or.inl ⟨by kernel_rfl, ?_⟩) (by assumption) ?_
      rotate_left
      · (intro w hSw; (try dsimp only at hSw); go_simp) <;> with_reducible rfl
      (try simp only [Act.put, List.getElem_toArray, List.getElem_cons_zero, List.getElem_cons_succ, List.setIfInBounds_toArray, List.set_cons_zero, List.set_cons_succ])
      refine wpAnyH_take (i := 4) (v := ?_) rfl (by kernel_rfl) (by kernel_rfl) (by kernel_rfl) (fun _ _ _ h => h) (Or.inl ⟨by kernel_rfl, ?_⟩) (by assumption) ?_
      rotate_left
      · (intro w hSw; (try dsimp only at hSw); go_simp) <;> with_reducible rfl
      (try simp only [Act.put, List.getElem_toArray, List.getElem_cons_zero, List.getElem_cons_succ, List.setIfInBounds_toArray, List.set_cons_zero, List.set_cons_succ])
      refine wpAnyH_take (i := 5) (v := ?_) rfl (by kernel_rfl) (by kernel_rfl) (by kernel_rfl) (fun _ _ _ h => h) (Or.inl ⟨by kernel_rfl, ?_⟩) (by assumption) ?_
      rotate_left
      · (intro w hSw; (try dsimp only at hSw); go_simp) <;> with_reducible rfl
      (try simp only [Act.put, List.getElem_toArray, List.getElem_cons_zero, List.getElem_cons_succ, List.setIfInBounds_toArray, List.set_cons_zero, List.set_cons_succ])
      refine wpAnyH_take (i := 6) (v := ?_) rfl (by kernel_rfl) (by kernel_rfl) (by kernel_rfl) (fun _ _ _ h => h) (Or.inl ⟨by kernel_rfl, ?_⟩) (by assumption) ?_
      rotate_left
      · (intro w hSw; (try dsimp only at hSw); go_simp) <;> with_reducible rfl
      (try simp only [Act.put, List.getElem_toArray, List.getElem_cons_zero, List.getElem_cons_succ, List.setIfInBounds_toArray, List.set_cons_zero, List.set_cons_succ])
      refine wpAnyH_take (i := 7) (v := ?_) rfl (by kernel_rfl) (by kernel_rfl) (by kernel_rfl) (fun _ _ _ h => h) (Or.inl ⟨by kernel_rfl, ?_⟩) (by assumption) ?_
      rotate_left
      · (intro w hSw; (try dsimp only at hSw); go_simp) <;> with_reducible rfl
      (try simp only [Act.put, List.getElem_toArray, List.getElem_cons_zero, List.getElem_cons_succ, List.setIfInBounds_toArray, List.set_cons_zero, List.set_cons_succ])
      refine wpAnyH_take (i := 8) (v := ?_) rfl (by kernel_rfl) (by kernel_rfl) (by kernel_rfl) (fun _ _ _ h => h) (Or.inl ⟨by kernel_rfl, ?_⟩) (by assumption) ?_
      rotate_left
      · (intro w hSw; (try dsimp only at hSw); go_simp) <;> with_reducible rfl
      (try simp only [Act.put, List.getElem_toArray, List.getElem_cons_zero, List.getElem_cons_succ, List.setIfInBounds_toArray, List.set_cons_zero, List.set_cons_succ])
      refine wpAnyH_take (i := 9) (v := ?_) rfl (by kernel_rfl) (by kernel_rfl) (by kernel_rfl) (fun _ _ _ h => h) (Or.inl ⟨by kernel_rfl, ?_⟩) (by assumption) ?_
      rotate_left
      · (intro w hSw; (try dsimp only at hSw); go_simp) <;> with_reducible rfl
      (try simp only [Act.put, List.getElem_toArray, List.getElem_cons_zero, List.getElem_cons_succ, List.setIfInBounds_toArray, List.set_cons_zero, List.set_cons_succ])
      refine wpAnyH_take (i := 10) (v := ?_) rfl (by kernel_rfl) (by kernel_rfl) (by kernel_rfl) (fun _ _ _ h => h) (Or.inl ⟨by kernel_rfl, ?_⟩) (by assumption) ?_
      rotate_left
      · (intro w hSw; (try dsimp only at hSw); go_simp) <;> with_reducible rfl
      (try simp only [Act.put, List.getElem_toArray, List.getElem_cons_zero, List.getElem_cons_succ, List.setIfInBounds_toArray, List.set_cons_zero, List.set_cons_succ])
      refine wpAnyH_take (i := 11) (v := ?_) rfl (by kernel_rfl) (by kernel_rfl) (by kernel_rfl) (fun _ _ _ h => h) (Or.inl ⟨by kernel_rfl, ?_⟩) (by assumption) ?_
      rotate_left
      · (intro w hSw; (try dsimp only at hSw); go_simp) <;> with_reducible rfl
      (try simp only [Act.put, List.getElem_toArray, List.getElem_cons_zero, List.getElem_cons_succ, List.setIfInBounds_toArray, List.set_cons_zero, List.set_cons_succ])
      refine wpAnyH_take (i := 12) (v := ?_) rfl (by kernel_rfl) (by kernel_rfl) (by kernel_rfl) (fun _ _ _ h => h) (Or.inl ⟨by kernel_rfl, ?_⟩) (by assumption) ?_
      rotate_left
      · (intro w hSw; (try dsimp only at hSw); go_simp) <;> with_reducible rfl
      (try simp only [Act.put, List.getElem_toArray, List.getElem_cons_zero, List.getElem_cons_succ, List.setIfInBounds_toArray, List.set_cons_zero, List.set_cons_succ])
      refine wpAnyH_take (i := 13) (v := ?_) rfl (by kernel_rfl) (by kernel_rfl) (by kernel_rfl) (fun _ _ _ h => h) (Or.inl ⟨by kernel_rfl, ?_⟩) (by assumption) ?_
      rotate_left
      · (intro w hSw; (try dsimp only at hSw); go_simp) <;> with_reducible rfl
      (try simp only [Act.put, List.getElem_toArray, List.getElem_cons_zero, List.getElem_cons_succ, List.setIfInBounds_toArray, List.set_cons_zero, List.set_cons_succ])
      refine wpAnyH_take (i := 14) (v := ?_) rfl (by kernel_rfl) (by kernel_rfl) (by kernel_rfl) (fun _ _ _ h => h) (Or.inl ⟨by kernel_rfl, ?_⟩) (by assumption) ?_
      rotate_left
      · (intro w hSw; (try dsimp only at hSw); go_simp) <;> with_reducible rfl
      (try simp only [Act.put, List.getElem_toArray, List.getElem_cons_zero, List.getElem_cons_succ, List.setIfInBounds_toArray, List.set_cons_zero, List.set_cons_succ])
      refine wpAnyH_take (i := 15) (v := ?_) rfl (by kernel_rfl) (by kernel_rfl) (by kernel_rfl) (fun _ _ _ h => h) (Or.inl ⟨by kernel_rfl, ?_⟩) (by assumption) ?_
      rotate_left
      · (intro w hSw; (try dsimp only at hSw); go_simp) <;> with_reducible rfl
      (try simp only [Act.put, List.getElem_toArray, List.getElem_cons_zero, List.getElem_cons_succ, List.setIfInBounds_toArray, List.set_cons_zero, List.set_cons_succ])
      refine wpAnyH_take (i := 16) (v := ?_) rfl (by kernel_rfl) (by kernel_rfl) (by kernel_rfl) (fun _ _ _ h => h) (Or.inl ⟨by kernel_rfl, ?_⟩) (by assumption) ?_
      rotate_left
      · (intro w hSw; (try dsimp only at hSw); go_simp) <;> with_reducible rfl
      (try simp only [Act.put, List.getElem_toArray, List.getElem_cons_zero, List.getElem_cons_succ, List.setIfInBounds_toArray, List.set_cons_zero, List.set_cons_succ])
      refine wpAnyH_take (i := 17) (v := ?_) rfl (by kernel_rfl) (by kernel_rfl) (by kernel_rfl) (fun _ _ _ h => h) (Or.inl ⟨by kernel_rfl, ?_⟩) (by assumption) ?_
      rotate_left
      · (intro w hSw; (try dsimp only at hSw); go_simp) <;> with_reducible rfl
      (try simp only [Act.put, List.getElem_toArray, List.getElem_cons_zero, List.getElem_cons_succ, List.setIfInBounds_toArray, List.set_cons_zero, List.set_cons_succ])
      refine wpAnyH_take (i := 18) (v := ?_) rfl (by kernel_rfl) (by kernel_rfl) (by kernel_rfl) (fun _ _ _ h => h) (Or.inl ⟨by kernel_rfl, ?_⟩) (by assumption) ?_
      rotate_left
      · (intro w hSw; (try dsimp only at hSw); go_simp) <;> with_reducible rfl
      (try simp only [Act.put, List.getElem_toArray, List.getElem_cons_zero, List.getElem_cons_succ, List.setIfInBounds_toArray, List.set_cons_zero, List.set_cons_succ])
      refine wpAnyH_take (i := 19) (v := ?_) rfl (by kernel_rfl) (by kernel_rfl) (by kernel_rfl) (fun _ _ _ h => h) (Or.inl ⟨by kernel_rfl, ?_⟩) (by assumption) ?_
      rotate_left
      · (intro w hSw; (try dsimp only at hSw); go_simp) <;> with_reducible rfl
      (try simp only [Act.put, List.getElem_toArray, List.getElem_cons_zero, List.getElem_cons_succ, List.setIfInBounds_toArray, List.set_cons_zero, List.set_cons_succ])
      refine wpAnyH_take (i := 20) (v := ?_) rfl (by kernel_rfl) (by kernel_rfl) (by kernel_rfl) (fun _ _ _ h => h) (Or.inl ⟨by kernel_rfl, ?_⟩) (by assumption) ?_
      rotate_left
      · (intro w hSw; (try dsimp only at hSw); go_simp) <;> with_reducible rfl
      (try simp only [Act.put, List.getElem_toArray, List.getElem_cons_zero, List.getElem_cons_succ, List.setIfInBounds_toArray, List.set_cons_zero, List.set_cons_succ])
      refine wpAnyH_take (i := 21) (v := ?_) rfl (by kernel_rfl) (by kernel_rfl) (by kernel_rfl) (fun _ _ _ h => h) (Or.inl ⟨by kernel_rfl, ?_⟩) (by assumption) ?_
      rotate_left
      · (intro w hSw; (try dsimp only at hSw); go_simp) <;> with_reducible rfl
      (try simp only [Act.put, List.getElem_toArray, List.getElem_cons_zero, List.getElem_cons_succ, List.setIfInBounds_toArray, List.set_cons_zero, List.set_cons_succ])
      refine wpAnyH_take (i := 22) (v := ?_) rfl (by kernel_rfl) (by kernel_rfl) (by kernel_rfl) (fun _ _ _ h => h) (Or.inl ⟨by kernel_rfl, ?_⟩) (by assumption) ?_
      rotate_left
      · (intro w hSw; (try dsimp only at hSw); go_simp) <;> with_reducible rfl
      (try simp only [Act.put, List.getElem_toArray, List.getElem_cons_zero, List.getElem_cons_succ, List.setIfInBounds_toArray, List.set_cons_zero, List.set_cons_succ])
      refine wpAnyH_take (i := 23) (v := ?_) rfl (by kernel_rfl) (by kernel_rfl) (by kernel_rfl) (fun _ _ _ h => h) (Or.inl ⟨by kernel_rfl, ?_⟩) (by assumption) ?_
      rotate_left
      · (intro w hSw; (try dsimp only at hSw); go_simp) <;> with_reducible rfl
      (try simp only [Act.put, List.getElem_toArray, List.getElem_cons_zero, List.getElem_cons_succ, List.setIfInBounds_toArray, List.set_cons_zero, List.set_cons_succ])
      refine wpAnyH_ready (rs := [24]) (by kernel_rfl) (by simp) ?_
      refine AllReadyH.cons rfl (fun K hK => ?_) AllReadyH.nil
      go_simp
      refine hput.mono ?_
      rintro x w1 ⟨rfl, hd1, hu1⟩
      have hu1' : UpdP (fun k => k = Q.dx ∨ k = Q.lb) wr w1 := UpdP.trans (b := wr.drew) ⟨rfl, rfl, rfl, Nat.le_refl _, fun _ _ _ => rfl⟩ hu1
      have HK1 : Hid (RkX w1 X Q n (m + (j + 1)) (splice vsj (f * 32) ws) l L last) := HK.out.updD hd1 (by have := HPt.out; omega) hu1'
      have HU1 : Hid _ := HU.out.trans hu1'
      have hsame : ∀ {k i : Nat} {u : Value} {cs : Array Value} {t : TypeId} {fr : Nat × Nat}, wr.heap[k]? = some (.cells cs t fr) → t ≠ 162 → k ≠ Q.lb → wr.cell? ⟨k, i, none⟩ = some u → w1.cell? ⟨k, i, none⟩ = some u := by
        intro k i u cs t fr hk ht hl hc
        refine (World.cell?_of_block (w := wr) (a := ⟨k, i, none⟩) (hu1'.block _ (lt_of_heap hk) ?_)).trans hc
        obtain ⟨_, _, hdd, _⟩ := HK.out.disk
        rintro (e | e)
        · exact apart hk hdd.head ht e
        · exact hl e
      obtain ⟨_, _, hddk, _⟩ := HK.out.disk
      obtain ⟨curk, hhk, _⟩ := hddk.tab
      have t4 : w1.cell? ⟨gn, j, none⟩ = some (.int .i64 f) := hsame HCur.out (by decide) (apart HCur.out hhk (by decide)) cj
      have t5 : w1.cell? ⟨Q.wb, f, none⟩ = some v := hsame HRow.out (by decide) (fun e => HK.out.ne e.symm) cv
      obtain ⟨iv1, nv1, hx1, -, -⟩ := HK.out.head
      have t0 : w1.cell? ⟨X, 0, none⟩ = some (ptr Q.dx) := hsame hx1 (by decide) (apart hx1 hhk (by decide)) x0
      have t3 : w1.cell? ⟨X, 3, none⟩ = some (.slice (some ⟨gn, 0, none⟩) z ncap) := hsame hx1 (by decide) (apart hx1 hhk (by decide)) x3
      have t44 : w1.cell? ⟨X, 4, none⟩ = some (.slice (some ⟨Q.wb, 0, none⟩) n n) := hsame hx1 (by decide) (apart hx1 hhk (by decide)) x4
      clear hd1 hu1 hu1' hsame hddk hhk hx1 hput
      refine hK.out _ _ ⟨t0, t3, t44, t4, t5⟩ (fun hHeld => ?_)
      clear hK K
      (try simp only [Act.put, List.getElem_toArray, List.getElem_cons_zero, List.getElem_cons_succ, List.setIfInBounds_toArray, List.set_cons_zero, List.set_cons_succ])
      refine wpAnyH_done (by kernel_rfl) ?_ _
      go_wp2
      go_roundw
      case rel => exact ⟨j + 1, by omega, by go_num, by rw [HE.out]; exact HK1.out, HU1.out⟩
      case measure => simp [intOf]; omega
    · obtain rfl : j = N.length := by omega
      have ij : ¬ (((N.length : Nat) : Int) < ((N.length : Nat) : Int)) := by omega
      rw [List.take_length] at hK
      obtain ⟨-, -, -, x3, -⟩ := cells5 hxr
      have hf3 : wr.frozen? ⟨X, 3, none⟩ = false := frozen_of_heap hxr
      have hup : UpdP (fun k => k = X ∨ k = Q.wb) wr (wr.setCell ⟨X, 3, none⟩ (.slice none 0 0)) := (Upd.setCell _ _ _ _).p _ (Or.inl rfl)
      have hnr : ∀ k, (k = X ∨ k = Q.wb) → NoT wr k := fun k e => hK.noT k (rfX k e)
      have HF : Hid (RkX (wr.setCell ⟨X, 3, none⟩ (.slice none 0 0)) X Q n (m + n) (syncV l vs n) (syncL l n) L last) := by
        have h1 := hK.mono (m' := m + n) (by omega)
        rw [HP1.out] at h1
        refine h1.updL hup ⟨iv, .slice none 0 0, set3_heap hxr _, ?_, ?_⟩ ?_ (h1.linv.sync n)
        · rw [in_sync]
          exact hivr.keepT hup (fun k e => (hnr k e).2.1)
        · rw [new_sync]
          exact IV.nil _
        · exact (WRow.keepT (P := fun k => k = X) hK.wrow ((Upd.setCell _ _ _ _).p _ rfl) (fun e => hK.Xwb e.symm) (fun k e => hnr k (Or.inl e))).sync
      have HU : Hid (UpdP (RF X Q) w (wr.setCell ⟨X, 3, none⟩ (.slice none 0 0))) := (hU.mono (fun k e => by rcases e with e | e; exact Or.inr (Or.inl e); exact Or.inr (Or.inr (Or.inl e)))).trans (hup.mono rfX)
      clear hK hU hxr hnot hnvr hivr hup hnr hXn
      generalize hz : N.length = z at *
      go_wp2
      go_ret
      exact ⟨by rw [← HP2.out]; rfl, HF.out, HU.out⟩
end
end Go.Proofs.Ytfnafjddajgahaa
