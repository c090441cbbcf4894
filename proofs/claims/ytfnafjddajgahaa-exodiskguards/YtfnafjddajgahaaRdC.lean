/- The reference kernel of blocks: Put, Sync. -/
import Derived.Test.YtfnafjddajgahaaRdB
namespace Go.Proofs.Ytfnafjddajgahaa
open Go.RowKit Ca
set_option linter.unusedVariables false

section
variable {w w' : World} {X : Nat} {Q : Rq} {n m : Nat} {vs : List Int} {l : Lines} {L : List Ce} {last : Int} {T : Tab}
theorem rfX : ∀ k, (k = X ∨ k = Q.wb) → RF X Q k := fun k hk => by rcases hk with e | e; exact Or.inl e; exact Or.inr (Or.inr (Or.inr (Or.inr e)))
set_option maxRecDepth 100000 in
set_option maxHeartbeats 4000000 in
theorem rxput_yes {M : Nat} {v : Value} {ws : List Int} (h : RkX w X Q n m vs l L last) (hk : Lx T L last n) (e s : Int) (b : Nat) (hb : I64 b) (hv : URow M w v ws) (hl : ws.length = 32) (hq : mayX T e s b 2 = true) :
    Calls Try.prog 30 #[ptr X, .int .i64 e, .int .i64 s, .int .i64 b, v] w fun x w' => x = .returned (.int .i64 0) ∧ RkX w' X Q n m vs (putL l b ws) L last ∧ UpdP (RF X Q) w w' := by
  obtain ⟨i0, hi0, hzz⟩ := Option.map_eq_some_iff.1 Di.wordInfo
  simp only [Prod.mk.injEq] at hzz
  obtain ⟨hz0, hz1, hz2⟩ := hzz
  have hM := rxmay_at h hk e s b 2 hb (Or.inr rfl)
  rw [hq] at hM
  have hbn : b < n := by have := (mayX_in hk.inv hq).2; omega
  have HH : Hid _ := h
  have hn := hk.n2
  have HL : Hid _ := hl
  have HV : Hid (URow M w v ws) := hv
  obtain ⟨p, pc, rfl, -⟩ := hv.has hl
  have ib : (b : Int) < (n : Int) := by omega
  clear h hk hq hb hl hv
  go_enter Try.func30, Try.ntmps30
  go_wp2_with (first | (go_at_call 72; refine hM.mono ?_; rintro x w1 ⟨rfl, hb1⟩
                        have hK1 := HH.out.below hb1
                        obtain ⟨iv, nv, hx1, hi1, hn1⟩ := hK1.head
                        obtain ⟨a1, cap1, rfl, hrow1, hcap1⟩ := hi1.row
                        obtain ⟨-, -, x2, -, -⟩ := cells5 hx1) | fail)
  have HB1 : Hid _ := hb1
  have HK1 : Hid _ := hK1
  have HV1 : Hid (URow M w1 (.slice (some ⟨p, 0, none⟩) 32 pc) ws) := URow.keepT HV.out (UpdP.of_below (P := fun _ => False) hb1) (fun _ q => q.elim)
  have hpi := rputi_at (inL l n) a1 cap1 b w1 hrow1 (by have := fl_len (fun i => (l i).1.isSome) n; unfold inL; omega) hcap1
  clear hb1 hK1 hi1 hn1 hrow1 hcap1 hx1 hM HV
  refine hpi.mono ?_
  rintro x w2 ⟨v2, rfl, hown2, hb2⟩
  have hiv2 := iv_of_own hown2
  obtain ⟨a2, cap2, rfl, -, -⟩ := id hiv2
  have hK2 := HK1.out.below hb2
  obtain ⟨iv2, nv2, hx2, hi2, hn2⟩ := hK2.head
  obtain ⟨-, -, x2, x3, -⟩ := cells5 hx2
  have hf2 : w2.frozen? ⟨X, 2, none⟩ = false := frozen_of_heap hx2
  have hx3 := set2_heap hx2 (.slice a2 (insI (b : Int) (inL l n)).length cap2)
  obtain ⟨W3, hW3⟩ : ∃ W, W = w2.setCell ⟨X, 2, none⟩ (.slice a2 (insI (b : Int) (inL l n)).length cap2) := ⟨_, rfl⟩
  have hup3 : UpdP (fun k => k = X) w2 W3 := by rw [hW3]; exact (Upd.setCell _ _ _ _).p _ rfl
  rw [← hW3] at hx3
  have hnx : ∀ k, k = X → NoT w2 k := fun k e => hK2.noT k (Or.inl e)
  have hiv3 := hiv2.keepT hup3 (fun k e => (hnx k e).2.1)
  have hnv3 := hn2.keepT hup3 (fun k e => (hnx k e).2.1)
  obtain ⟨a3, cap3, rfl, hrow3, hcap3⟩ := hnv3.row
  have hpn := rputi_at (newL l n) a3 cap3 b W3 hrow3 (by have := fl_len (fun i => (l i).2) n; unfold newL; omega) hcap3
  obtain ⟨-, -, -, y3, -⟩ := cells5 hx3
  have HB2 : Hid (Below w.heap.size w w2) := HB1.out.trans (hb2.mono HB1.out.size)
  have HK2 : Hid _ := hK2
  have HU3 : Hid _ := hup3
  have HX3 : Hid _ := hx3
  have HI3 : Hid (IV W3 (.slice a2 (insI (b : Int) (inL l n)).length cap2) (insI (b : Int) (inL l n))) := hiv3
  have HV2 : Hid (URow M w2 (.slice (some ⟨p, 0, none⟩) 32 pc) ws) := URow.keepT HV1.out (UpdP.of_below (P := fun _ => False) hb2) (fun _ q => q.elim)
  clear hpi hown2 hb2 hiv2 hK2 hx2 hx3 hi2 hn2 hup3 hnx hiv3 hnv3 hrow3 hcap3 HB1 HK1 HV1
  generalize (insI (b : Int) (inL l n)).length = z2 at *
  go_wp2_with fail
  rw [← hW3]
  clear hW3 x2 x3 hf2
  refine hpn.mono ?_
  rintro x w4 ⟨v4, rfl, hown4, hb4⟩
  have hiv4 := iv_of_own hown4
  obtain ⟨a4, cap4, rfl, -, -⟩ := id hiv4
  have hx4 := (hb4.block _ (lt_of_heap HX3.out)).trans HX3.out
  have hx5 := set3_heap hx4 (.slice a4 (insI (b : Int) (newL l n)).length cap4)
  obtain ⟨-, -, -, x3, -⟩ := cells5 hx4
  have hf4 : w4.frozen? ⟨X, 3, none⟩ = false := frozen_of_heap hx4
  obtain ⟨W5, hW5⟩ : ∃ W, W = w4.setCell ⟨X, 3, none⟩ (.slice a4 (insI (b : Int) (newL l n)).length cap4) := ⟨_, rfl⟩
  have hup5 : UpdP (fun k => k = X) w4 W5 := by rw [hW5]; exact (Upd.setCell _ _ _ _).p _ rfl
  have hup25 : UpdP (fun k => k = X) w2 W5 := (HU3.out.trans (UpdP.of_below hb4)).trans hup5
  rw [← hW5] at hx5
  have hnx : ∀ k, k = X → NoT w2 k := fun k e => HK2.out.noT k (Or.inl e)
  have hnx4 : ∀ k, k = X → NoT w4 k := fun k e => by subst e; exact noT_of hx4 (by decide) (by decide) (by decide)
  have HIV5 : Hid (IV W5 (.slice a2 z2 cap2) (insI (b : Int) (inL l n))) := (IV.keepT HI3.out (UpdP.of_below (P := fun _ => False) hb4) (fun _ q => q.elim)).keepT hup5 (fun k e => (hnx4 k e).2.1)
  have HNV5 : Hid (IV W5 (.slice a4 (insI (b : Int) (newL l n)).length cap4) (insI (b : Int) (newL l n))) := hiv4.keepT hup5 (fun k e => (hnx4 k e).2.1)
  have HWR5 : Hid (WRow W5 Q.wb n l) := HK2.out.wrow.keepT hup25 (fun e => HK2.out.Xwb e.symm) hnx
  have HV5 : Hid (URow M W5 (.slice (some ⟨p, 0, none⟩) 32 pc) ws) := URow.keepT HV2.out hup25 (fun k e => (hnx k e).1)
  obtain ⟨-, -, -, -, x4⟩ := cells5 hx5
  have HX5 : Hid _ := hx5
  have HU5 : Hid _ := hup25
  clear hpn hown4 hb4 hiv4 hx4 hx5 hup5 hup25 hnx hnx4 HU3 HX3 HI3 HV2
  generalize (insI (b : Int) (newL l n)).length = z4 at *
  go_wp2_with fail
  rw [← hW5]
  clear hW5 x3 hf4 y3
  have hnews : ∀ (j : Nat) (x : Value), (uvs ws)[j]? = some x → W5.drew.cell? ((⟨p, 0, none⟩ : Addr).add j) = some x := by
    intro j x hx
    obtain ⟨z, hz, rfl⟩ := uvs_get hx
    obtain ⟨p', pc', ep, hcs⟩ := URow.has HV5.out HL.out
    simp only [Value.slice.injEq, Option.some.injEq, Addr.mk.injEq] at ep
    obtain ⟨⟨e1, _⟩, _⟩ := ep
    subst e1
    rw [add0]
    exact hcs j z hz
  have HN : Hid _ := hnews
  have hown := World.ownsRow_nil W5.drew W5.heap.size 22 1
  clear hnews
  refine wp_region_held_drew (S := fun w' => w'.cell? ⟨X, 4, none⟩ = some (.slice (some ⟨Q.wb, 0, none⟩) n n)) (by kernel_rfl) x4 (fun hHeld => ?_)
  refine wpAnyH_take (i := 0) (v := ?_) rfl (by kernel_rfl) (by kernel_rfl) (by kernel_rfl) (fun _ _ _ h => h) (Or.inl ⟨by kernel_rfl, ?_⟩) (by assumption) ?_
  rotate_left
  · (intro w hSw; (try dsimp only at hSw); go_simp) <;> with_reducible rfl
  (try simp only [Act.put, List.getElem_toArray, List.getElem_cons_zero, List.setIfInBounds_toArray, List.set_cons_zero, List.set_cons_succ])
  refine wpAnyH_take (i := 1) (v := ?_) rfl (by kernel_rfl) (by kernel_rfl) (by kernel_rfl) (fun _ _ _ h => h) (Or.inl ⟨by kernel_rfl, ?_⟩) (by assumption) ?_
  rotate_left
  · (intro w hSw; (try dsimp only at hSw); go_simp) <;> with_reducible rfl
  (try simp only [Act.put, List.getElem_toArray, List.getElem_cons_zero, List.getElem_cons_succ, List.setIfInBounds_toArray, List.set_cons_zero, List.set_cons_succ])
  refine wpAnyH_take (i := 2) (v := ?_) rfl (by kernel_rfl) (by kernel_rfl) (by kernel_rfl) (fun _ _ _ h => h) (Or.inl ⟨by kernel_rfl, ?_⟩) (by assumption) ?_
  rotate_left
  · (intro w hSw; (try dsimp only at hSw); go_simp) <;> with_reducible rfl
  (try simp only [Act.put, List.getElem_toArray, List.getElem_cons_zero, List.getElem_cons_succ, List.setIfInBounds_toArray, List.set_cons_zero, List.set_cons_succ])
  refine wpAnyH_take (i := 3) (v := ?_) rfl (by kernel_rfl) (by kernel_rfl) (by kernel_rfl) (fun _ _ _ h => h) (Or.inl ⟨by kernel_rfl, ?_⟩) (by assumption) ?_
  rotate_left
  · (intro w hSw; (try dsimp only at hSw); go_simp) <;> with_reducible rfl
  (try simp only [Act.put, List.getElem_toArray, List.getElem_cons_zero, List.getElem_cons_succ, List.setIfInBounds_toArray, List.set_cons_zero, List.set_cons_succ])
  refine wpAnyH_take (i := 4) (v := ?_) rfl (by kernel_rfl) (by kernel_rfl) (by kernel_rfl) (fun _ _ _ h => h) (Or.inl ⟨by kernel_rfl, ?_⟩) (by assumption) ?_
  rotate_left
  · (intro w hSw; (try dsimp only at hSw); go_simp) <;> with_reducible rfl
  (try simp only [Act.put, List.getElem_toArray, List.getElem_cons_zero, List.getElem_cons_succ, List.setIfInBounds_toArray, List.set_cons_zero, List.set_cons_succ])
  refine wpAnyH_take (i := 5) (v := ?_) rfl (by kernel_rfl) (by kernel_rfl) (by kernel_rfl) (fun _ _ _ h => h) (Or.inl ⟨by kernel_rfl, ?_⟩) (by assumption) ?_
  rotate_left
  · (intro w hSw; (try dsimp only at hSw); go_simp) <;> with_reducible rfl
  (try simp only [Act.put, List.getElem_toArray, List.getElem_cons_zero, List.getElem_cons_succ, List.setIfInBounds_toArray, List.set_cons_zero, List.set_cons_succ])
  refine wpAnyH_ready (rs := [6]) (by kernel_rfl) (by simp) ?_
  refine AllReadyH.cons rfl (fun K hK => ?_) AllReadyH.nil
  refine step_append_lies _ (by rfl) _ _ _ (by rfl) W5.heap.size 22 i0 _ 1 8 Try.underlying58 hi0 hz0 hz1 hz2 rfl (by omega) (.slice none 0 0) 0 [] (by rfl) hown ⟨p, 0, none⟩ 32 pc (uvs ws) (by rfl) (by rw [uvs_len, HL.out])
        HN.out (uvs_one _) (by omega) (by unfold maxLen; omega) (by omega) (by show W5.heap.size ≤ W5.heap.size; omega) _ rfl ?_
  intro gg cap6 w6 hown6 hgrow hat hlt6
  have hb6 : Below W5.heap.size W5 w6 := by
    have := below_grown (B := W5.heap.size) hgrow (Nat.le_refl _) (fun g e => by simp [Value.ownBlock] at e)
    exact ⟨this.os, this.tape, this.output, this.size, this.block⟩
  have hx6 := (hb6.block _ (lt_of_heap HX5.out)).trans HX5.out
  obtain ⟨-, -, -, -, x46⟩ := cells5 hx6
  have hu6 : URow W5.heap.size w6 (.slice (some ⟨gg, 0, none⟩) 32 cap6) ws := urow_of_own (zs := ws) (by rw [HL.out]; simpa using hown6)
  have hwr6 := WRow.keepT HWR5.out (UpdP.of_below (P := fun _ => False) hb6) (fun e => e) (fun _ q => q.elim)
  obtain ⟨⟨u6, c6⟩, f6⟩ := hwr6.some hbn
  obtain ⟨Z, hZ⟩ : ∃ Z, Z = w6.setCell ⟨Q.wb, b, none⟩ (.slice (some ⟨gg, 0, none⟩) 32 cap6) := ⟨_, rfl⟩
  have hne := HK2.out.Xwb
  have hxZ : Z.heap[X]? = some (.cells #[ptr Q.dx, ptr Q.c, .slice a2 z2 cap2, .slice a4 z4 cap4, .slice (some ⟨Q.wb, 0, none⟩) n n] 116) := by
    rw [hZ]
    exact (Below.heap_setCell _ _ _ _ hne).trans hx6
  have hupZ : UpdP (fun k => k = Q.wb) w6 Z := by rw [hZ]; exact (Upd.setCell _ _ _ _).p _ rfl
  have hnw : ∀ k, k = Q.wb → NoT w6 k := fun k e => by
    obtain ⟨row, hr, _⟩ := hwr6
    subst e
    exact noT_of hr (by decide) (by decide) (by decide)
  have hup2Z : UpdP (fun k => k = X ∨ k = Q.wb) w2 Z := ((HU5.out.mono (fun k e => Or.inl e)).trans (UpdP.of_below hb6)).trans (hupZ.mono (fun k e => Or.inr e))
  have HFin : Hid (RkX Z X Q n m vs (putL l b ws) L last) := by
    refine HK2.out.updL hup2Z ⟨_, _, hxZ, ?_, ?_⟩ ?_ (HK2.out.linv.set _ _ _ HL.out)
    · have := (IV.keepT HIV5.out (UpdP.of_below (P := fun _ => False) hb6) (fun _ q => q.elim)).keepT hupZ (fun k e => (hnw k e).2.1)
      rw [in_set hbn ws true] at this
      exact this
    · have := (IV.keepT HNV5.out (UpdP.of_below (P := fun _ => False) hb6) (fun _ q => q.elim)).keepT hupZ (fun k e => (hnw k e).2.1)
      rw [new_set hbn ws] at this
      exact this
    · rw [hZ]
      exact hwr6.set hbn _ ws true (hu6.mono (Nat.zero_le _))
  have HUF : Hid (UpdP (RF X Q) w Z) := (UpdP.of_below (HB2.out : Below w.heap.size w w2)).trans (hup2Z.mono rfX)
  obtain ⟨-, -, -, -, xZ4⟩ := cells5 hxZ
  clear hb6 hx6 hu6 hwr6 hxZ hupZ hnw hup2Z hown6 hgrow hat hlt6 hne
  refine hK.out _ _ x46 (fun hHeld => ?_)
  clear hK K
  (try simp only [Act.put, List.getElem_toArray, List.getElem_cons_zero, List.getElem_cons_succ, List.setIfInBounds_toArray, List.set_cons_zero, List.set_cons_succ])
  refine wpAnyH_take (i := 7) (v := ?_) rfl (by kernel_rfl) (by kernel_rfl) (by kernel_rfl) (fun _ _ _ h => h) (Or.inl ⟨by kernel_rfl, ?_⟩) (by assumption) ?_
  rotate_left
  · (intro w hSw; (try dsimp only at hSw); go_simp) <;> with_reducible rfl
  (try simp only [Act.put, List.getElem_toArray, List.getElem_cons_zero, List.getElem_cons_succ, List.setIfInBounds_toArray, List.set_cons_zero, List.set_cons_succ])
  refine wpAnyH_ready (rs := [8]) (by kernel_rfl) (by simp) ?_
  refine AllReadyH.cons rfl (fun K hK => ?_) AllReadyH.nil
  go_simp
  rw [← hZ]
  clear hZ
  refine hK.out _ _ xZ4 (fun hHeld => ?_)
  clear hK K
  (try simp only [Act.put, List.getElem_toArray, List.getElem_cons_zero, List.getElem_cons_succ, List.setIfInBounds_toArray, List.set_cons_zero, List.set_cons_succ])
  refine wpAnyH_done (by kernel_rfl) ?_ _
  go_wp2
  go_ret
  exact ⟨rfl, HFin.out, HUF.out⟩

theorem rxput_at {M : Nat} {v : Value} {ws : List Int} (h : RkX w X Q n m vs l L last) (hk : Lx T L last n) (e s b : Int) (hb : I64 b) (hv : URow M w v ws) :
    Calls Try.prog 30 #[ptr X, .int .i64 e, .int .i64 s, .int .i64 b, v] w fun x w' => x = .returned (.int .i64 (putRr T e s b ws.length)) ∧ RkX w' X Q n m vs (putLl T l e s b ws) L last ∧ UpdP (RF X Q) w w' := by
  have hM := rxmay_at h hk e s b 2 hb (Or.inr rfl)
  have HH : Hid _ := h
  cases hq : mayX T e s b 2 with
  | false =>
    rw [hq] at hM
    have HA : Hid (putRr T e s b ws.length = 104 ∧ putLl T l e s b ws = l) := by
      show _ ∧ _
      simp [putRr, putLl, hq]
    clear hq h hv hk
    generalize putRr T e s b ws.length = R at *
    go_enter Try.func30, Try.ntmps30
    go_wp2_with (go_at_call 72; refine hM.mono ?_; rintro x w1 ⟨rfl, hb1⟩)
    go_ret
    exact ⟨by rw [HA.out.1]; rfl, by rw [HA.out.2]; exact HH.out.below hb1, UpdP.of_below hb1⟩
  | true =>
    obtain ⟨b0, b1⟩ := mayX_in hk.inv hq
    obtain ⟨b, rfl⟩ := nat_of b b0
    by_cases hl : ws.length = 32
    · have h1 : putRr T e s b ws.length = 0 ∧ putLl T l e s b ws = putL l b ws := by simp [putRr, putLl, hq, hl]
      rw [h1.1, h1.2]
      exact rxput_yes h hk e s b hb hv hl hq
    · rw [hq] at hM
      have HA : Hid (putRr T e s b ws.length = 101 ∧ putLl T l e s b ws = l) := by
        show _ ∧ _
        simp [putRr, putLl, hq, hl]
      obtain ⟨a, cap, rfl, _⟩ := hv
      have h32 : (((ws.length : Nat) : Int) != 32) = true := by simp; omega
      clear hq h hk b0 b1 hb hl
      generalize putRr T e s b ws.length = R at *
      generalize ws.length = z at *
      go_enter Try.func30, Try.ntmps30
      go_wp2_with (go_at_call 72; refine hM.mono ?_; rintro x w1 ⟨rfl, hb1⟩)
      go_ret
      exact ⟨by rw [HA.out.1]; rfl, by rw [HA.out.2]; exact HH.out.below hb1, UpdP.of_below hb1⟩
end
end Go.Proofs.Ytfnafjddajgahaa
