import Derived.Test.YtbhpafgoofkkmaaGreatDoorXoI
set_option linter.all false
namespace Go.Proofs.YtbhpafgoofkkmaaGreatDoor
open Go.RowKit
section
variable {w : World} {Kb : Nat} {L : XL} {S : XS}
theorem rdv_has {w : World} {av : Option Addr} {nv cv : Nat} {ws : List Int} (h : RdV w (.slice av nv cv) ws) (k : Nat) (hl : ws.length = k + 1) : ∃ g o, av = some ⟨g, o, none⟩ ∧ nv = k + 1 := by
 obtain ⟨g, o, cap, e, _⟩ := h.has k hl
 simp only [Value.slice.injEq] at e
 exact ⟨g, o, e.1, e.2.1⟩
theorem rdv_cell {w : World} {g o nv cv : Nat} {ws : List Int} (h : RdV w (.slice (some ⟨g, o, none⟩) nv cv) ws) {j : Nat} (hj : j < ws.length) : w.cell? ⟨g, o + j, none⟩ = some (.int .u64 (ws.getD j 0)) := by
 obtain ⟨a, c, e, _, hr⟩ := h
 simp only [Value.slice.injEq] at e
 obtain ⟨g', o', e', hc⟩ := hr j (ws.getD j 0) (by simp [List.getD, List.getElem?_eq_getElem hj])
 rw [← e.1] at e'
 simp only [Option.some.injEq, Addr.mk.injEq] at e'
 obtain ⟨rfl, rfl, _⟩ := e'
 exact hc
set_option maxHeartbeats 4000000 in
theorem rawx_at (h : ExoAt w Kb L S) (hF : Frm w) (hi : XI S) (e : Int) (v : Value) (ws : List Int) (hv : ∀ w', XTch L True w w' → RdV w' v ws) (hu : U64s ws) (hm : S.m ≤ 900000) :
  Calls Tryz.prog 9 #[ptr Kb, .int .i64 e, v] w (RawDid Kb L (talks S e ws) w (rawS S e ws)) := by
 cases hl : En.isB S.E e with
 | false => exact (rawx_dead h e v hl).mono fun x w' hd => RawDid.of hd (by unfold rawS; rw [hl]; rfl) False.elim
 | true =>
  have hv0 := hv w (XTch.refl _ _ _)
  cases hr : reqOf ws with
  | none => exact (rawx_none h hF e v ws hv0 hu hl hr).mono fun x w' hd => RawDid.of hd (by unfold rawS; rw [hl, hr]; rfl) False.elim
  | some r =>
   have ok := req_ok hr hu
   have hf : rawS S e ws = rawO S e r := by
    funext a' c'
    unfold rawS
    rw [hl, hr]
    rfl
   rw [hf]
   have ht : r.c = 11 ∨ (r.c = 12 ∧ Ip.qat S.Q e ≠ []) → talks S e ws := fun q => ⟨r, hr, q⟩
   have hW : ∀ {W : World}, Below w.heap.size w W → RdV W v ws := fun hb => hv _ (XTch.of_below hb)
   have hWX : ∀ {W W' : World}, Below w.heap.size w W → XTch L False W W' → RdV W' v ws := fun hb hx => hv _ ((XTch.of_below hb).trans (hx.mono False.elim))
   obtain ⟨c, a, b, d, vals⟩ := r
   obtain ⟨okc, oka, okb, okd, oklo, okhi, oku⟩ := ok
   dsimp only at okc oka okb okd oklo okhi oku ht
   have ia : Ca.I64 a := by unfold Ca.I64; omega
   have ib : Ca.I64 b := by unfold Ca.I64; omega
   have cases18 : c = 0 ∨ c = 1 ∨ c = 2 ∨ c = 3 ∨ c = 4 ∨ c = 5 ∨ c = 6 ∨ c = 7 ∨ c = 8 ∨ c = 9 ∨ c = 10 ∨ c = 11 ∨ c = 12 ∨ c = 13 ∨ c = 14 ∨ c = 15 ∨ c = 16 ∨ c = 17 := by omega
   rcases cases18 with rfl | rfl | rfl | rfl | rfl | rfl | rfl | rfl | rfl | rfl | rfl | rfl | rfl | rfl | rfl | rfl | rfl | rfl
   ·refine disp_share h hF e v hv0 hu hl hr (by dsimp only; omega) (fun av nv cv hst W hb => ?_)
    exact (raw_alloc (h.below hb) e a b d (.slice av nv cv)).mono (fun x w' hd => RawDid.of hd rfl False.elim)
   ·refine disp_share h hF e v hv0 hu hl hr (by dsimp only; omega) (fun av nv cv hst W hb => ?_)
    cases hb' : En.isB S.E b with
    | true => exact (raw_grant (h.below hb) e a b d (.slice av nv cv) hb').mono (fun x w' hd => RawDid.of hd (by show (if En.isB S.E b = true then _ else _) = _; rw [if_pos hb']) False.elim)
    | false => exact (raw_grant_no (h.below hb) e a b d (.slice av nv cv) hb').mono (fun x w' hd => RawDid.of hd (by show (if En.isB S.E b = true then _ else _) = _; rw [if_neg (by rw [hb']; decide)]) False.elim)
   ·refine disp_share h hF e v hv0 hu hl hr (by dsimp only; omega) (fun av nv cv hst W hb => ?_)
    exact (raw_free (h.below hb) e a b d (.slice av nv cv)).mono (fun x w' hd => RawDid.of hd rfl False.elim)
   ·refine disp_share h hF e v hv0 hu hl hr (by dsimp only; omega) (fun av nv cv hst W hb => ?_)
    exact (raw_revoke (h.below hb) e a b d (.slice av nv cv)).mono (fun x w' hd => RawDid.of hd rfl False.elim)
   ·refine disp_share h hF e v hv0 hu hl hr (by dsimp only; omega) (fun av nv cv hst W hb => ?_)
    by_cases hd1 : d ≤ 1
    ·exact (raw_map (h.below hb) e a b d (.slice av nv cv) hd1).mono (fun x w' hd => RawDid.of hd (by unfold rawO; dsimp only; rw [if_pos hd1]; rfl) False.elim)
    ·exact (raw_map_no (h.below hb) e a b d (.slice av nv cv) (by omega)).mono (fun x w' hd => RawDid.of hd (by unfold rawO; dsimp only; rw [if_neg hd1]; rfl) False.elim)
   ·refine disp_share h hF e v hv0 hu hl hr (by dsimp only; omega) (fun av nv cv hst W hb => ?_)
    exact (raw_unmap (h.below hb) e a b d (.slice av nv cv)).mono (fun x w' hd => RawDid.of hd rfl False.elim)
   ·refine disp_move h hF e v hv0 hu hl hr (by dsimp only; omega) (by dsimp only; omega) (fun av nv cv hst W hb => ?_)
    have hlen : vals.length = 0 + 1 := by have h1 : fL _ ≤ _ := oklo; have h2 : _ ≤ fM _ := okhi; simp only [fL, fM, ftab] at h1 h2; simp at h1 h2; omega
    obtain ⟨g, o, rfl, rfl⟩ := rdv_has (hst W (hW hb)) 0 hlen
    have x0p : 0 ≤ vals.getD 0 0 := by
     have := oku (vals[0]'(by omega)) (List.getElem_mem _)
     simp only [List.getD, List.getElem?_eq_getElem (show 0 < vals.length by omega), Option.getD_some]
     exact this.1
    exact (raw_load (h.below hb) e a b d g o cv (vals.getD 0 0) x0p (rdv_cell (hst W (hW hb)) (j := 0) (by dsimp only; omega))).mono (fun x w' hd => RawDid.of hd rfl False.elim)
   ·refine disp_move h hF e v hv0 hu hl hr (by dsimp only; omega) (by dsimp only; omega) (fun av nv cv hst W hb => ?_)
    have hlen : vals.length = 1 + 1 := by have h1 : fL _ ≤ _ := oklo; have h2 : _ ≤ fM _ := okhi; simp only [fL, fM, ftab] at h1 h2; simp at h1 h2; omega
    obtain ⟨g, o, rfl, rfl⟩ := rdv_has (hst W (hW hb)) 1 hlen
    have x0p : 0 ≤ vals.getD 0 0 := by
     have := oku (vals[0]'(by omega)) (List.getElem_mem _)
     simp only [List.getD, List.getElem?_eq_getElem (show 0 < vals.length by omega), Option.getD_some]
     exact this.1
    exact (raw_store (h.below hb) e a b d g o cv (vals.getD 0 0) (vals.getD 1 0) x0p (fun w' hx => ⟨rdv_cell (hst w' (hWX hb hx)) (j := 0) (by dsimp only; omega), rdv_cell (hst w' (hWX hb hx)) (j := 1) (by dsimp only; omega)⟩)).mono (fun x w' hd => RawDid.of hd rfl False.elim)
   ·refine disp_move h hF e v hv0 hu hl hr (by dsimp only; omega) (by dsimp only; omega) (fun av nv cv hst W hb => ?_)
    exact (raw_copy (h.below hb) e a b d (.slice av nv cv)).mono (fun x w' hd => RawDid.of hd rfl False.elim)
   ·refine disp_move h hF e v hv0 hu hl hr (by dsimp only; omega) (by dsimp only; omega) (fun av nv cv hst W hb => ?_)
    exact (raw_read (h.below hb) e a b d (.slice av nv cv)).mono (fun x w' hd => RawDid.of hd rfl False.elim)
   ·refine disp_move h hF e v hv0 hu hl hr (by dsimp only; omega) (by dsimp only; omega) (fun av nv cv hst W hb => ?_)
    have hlen : vals.length = 0 + 1 := by have h1 : fL _ ≤ _ := oklo; have h2 : _ ≤ fM _ := okhi; simp only [fL, fM, ftab] at h1 h2; simp at h1 h2; omega
    obtain ⟨g, o, rfl, rfl⟩ := rdv_has (hst W (hW hb)) 0 hlen
    have x0p : 0 ≤ vals.getD 0 0 := by
     have := oku (vals[0]'(by omega)) (List.getElem_mem _)
     simp only [List.getD, List.getElem?_eq_getElem (show 0 < vals.length by omega), Option.getD_some]
     exact this.1
    exact (raw_write (h.below hb) e a b d g o cv (vals.getD 0 0) (fun w' hx => rdv_cell (hst w' (hWX hb hx)) (j := 0) (by dsimp only; omega))).mono (fun x w' hd => RawDid.of hd rfl False.elim)
   ·refine disp_talk h hF e v hv0 hu hl hr (by dsimp only; omega) (by dsimp only; omega) (fun av nv cv hst W hb => ?_)
    cases hb' : En.isB S.E a with
    | true =>
     refine (raw_send (h.below hb) e a b d av nv cv vals (hst W (hW hb)) hb').mono ?_
     rintro x w' ⟨a', c', hn, hd⟩
     have e1 : rawO S e ⟨11, a, b, d, vals⟩ a' c' = ({ S with Q := Ip.sendQ S.Q e a a' c' vals }, [], Ip.sendR S.Q e a vals.length) := by unfold rawO; dsimp only; rw [if_pos hb']; rfl
     refine ⟨a', c', hn, ?_⟩
     rw [e1]
     obtain ⟨a3, n3, c3, q1, q2, q3, q4⟩ := hd
     exact ⟨a3, n3, c3, q1, q2, q3, q4.mono (fun _ => ht (Or.inl rfl))⟩
    | false => exact (raw_send_no (h.below hb) e a b d (.slice av nv cv) hb').mono (fun x w' hd => RawDid.of hd (by show (if En.isB S.E a = true then _ else _) = _; rw [if_neg (by rw [hb']; decide)]) False.elim)
   ·refine disp_talk h hF e v hv0 hu hl hr (by dsimp only; omega) (by dsimp only; omega) (fun av nv cv hst W hb => ?_)
    cases hq : Ip.qat S.Q e with
    | nil => exact (raw_recv_no (h.below hb) e a b d (.slice av nv cv) hq).mono (fun x w' hd => RawDid.of hd (by unfold rawO; dsimp only; rw [hq]; rfl) False.elim)
    | cons m R =>
     obtain ⟨f1, f2, f3, _⟩ := hi.at (e := e) (m := m) (by rw [hq]; exact List.mem_cons_self ..)
     exact (raw_recv (h.below hb) e a b d (.slice av nv cv) m R hq ⟨f1, f2⟩ f3).mono (fun x w' hd => RawDid.of hd (by unfold rawO; dsimp only; rw [hq]; rfl) (fun _ => ht (Or.inr ⟨rfl, by rw [hq]; simp⟩)))
   ·refine disp_disk h hF e v hv0 hu hl hr (by dsimp only; omega) (fun av nv cv hst W hb => ?_)
    exact (raw_xalloc (h.below hb) e a b d (.slice av nv cv) ia ib).mono (fun x w' hd => RawDid.of hd rfl False.elim)
   ·refine disp_disk h hF e v hv0 hu hl hr (by dsimp only; omega) (fun av nv cv hst W hb => ?_)
    cases hb' : En.isB S.E b with
    | true => exact (raw_xgrant (h.below hb) e a b d (.slice av nv cv) hb').mono (fun x w' hd => RawDid.of hd (by show (if En.isB S.E b = true then _ else _) = _; rw [if_pos hb']) False.elim)
    | false => exact (raw_xgrant_no (h.below hb) e a b d (.slice av nv cv) hb').mono (fun x w' hd => RawDid.of hd (by show (if En.isB S.E b = true then _ else _) = _; rw [if_neg (by rw [hb']; decide)]) False.elim)
   ·refine disp_disk h hF e v hv0 hu hl hr (by dsimp only; omega) (fun av nv cv hst W hb => ?_)
    exact (raw_xrevoke (h.below hb) e a b d (.slice av nv cv)).mono (fun x w' hd => RawDid.of hd rfl False.elim)
   ·refine disp_disk h hF e v hv0 hu hl hr (by dsimp only; omega) (fun av nv cv hst W hb => ?_)
    exact (raw_get (h.below hb) e a b d (.slice av nv cv) ib hm).mono (fun x w' hd => RawDid.of hd rfl False.elim)
   ·refine disp_disk h hF e v hv0 hu hl hr (by dsimp only; omega) (fun av nv cv hst W hb => ?_)
    exact (raw_put (h.below hb) e a b d av nv cv vals ib (hst W (hW hb))).mono (fun x w' hd => RawDid.of hd rfl False.elim)
end
end Go.Proofs.YtbhpafgoofkkmaaGreatDoor
