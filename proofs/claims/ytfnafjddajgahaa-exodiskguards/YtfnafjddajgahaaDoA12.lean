/- januslaw12.do, all deeds but a View's: with both kernels it answers, and both tell the same behind it. -/
import Derived.Test.YtfnafjddajgahaaRdE
import Derived.Test.YtfnafjddajgahaaXdN
namespace Go.Proofs.Ytfnafjddajgahaa
open Go.RowKit Ca
set_option linter.unusedVariables false

/-- The types of what a kernel's calls write, and of what the reference's do. -/
def kty (t : Nat) : Bool := t == 171 || t == 183 || t == 201 || t == 140 || t == 107
def rty (t : Nat) : Bool := t == 116 || t == 162 || t == 58 || t == 113
theorem kr_ty {t : Nat} (h1 : kty t = true) (h2 : rty t = true) : False := by
  simp [kty, rty] at h1 h2
  omega
section
variable {w W w' w1 w2 : World} {K0 X : Nat} {Y : Yd} {Q : Rq} {n m : Nat} {vs vs' : List Int} {l l' : Lines} {T T' : Tab} {L : List Ce} {last : Int}
theorem KAt.ty (h : KAt w K0 Y n m vs l T) {k : Nat} (hk : XFoot Y k ∨ k = K0) : ∃ cs t fr, w.heap[k]? = some (.cells cs t fr) ∧ kty t = true := by
  obtain ⟨gt, pt, hd, _⟩ := h.disk
  obtain ⟨row, hr, _⟩ := h.lines
  obtain ⟨row2, hr2, _⟩ := h.caps.head
  rcases hk with (e | e | e | e) | e
  · exact ⟨_, _, _, by rw [e]; exact hr, by decide⟩
  · exact ⟨_, _, _, by rw [e]; exact hd.head, by decide⟩
  · exact ⟨_, _, _, by rw [e]; exact hd.row, by decide⟩
  · exact ⟨_, _, _, by rw [e]; exact hr2, by decide⟩
  · exact ⟨_, _, _, by rw [e]; exact h.head, by decide⟩
theorem RkX.ty (h : RkX w X Q n m vs l L last) {k : Nat} (hk : RF X Q k) : ∃ cs t fr, w.heap[k]? = some (.cells cs t fr) ∧ rty t = true := by
  obtain ⟨iv, nv, hx, _⟩ := h.head
  obtain ⟨gt, pt, hd, _⟩ := h.disk
  obtain ⟨row, hr, _⟩ := h.wrow
  obtain ⟨sv, hc⟩ := h.caps
  obtain ⟨cur, hh, _⟩ := hd.tab
  rcases hk with e | e | e | e | e
  · exact ⟨_, _, _, by rw [e]; exact hx, by decide⟩
  · exact ⟨_, _, _, by rw [e]; exact hd.head, by decide⟩
  · exact ⟨_, _, _, by rw [e]; exact hh, by decide⟩
  · exact ⟨_, _, _, by rw [e]; exact hc.head, by decide⟩
  · exact ⟨_, _, _, by rw [e]; exact hr, by decide⟩
theorem kr_apart (hK : KAt w K0 Y n m vs l T) {m2 : Nat} {vs2 : List Int} {l2 : Lines} (hR : RkX w X Q n m2 vs2 l2 L last) {k : Nat} (h1 : XFoot Y k ∨ k = K0) (h2 : RF X Q k) : False := by
  obtain ⟨_, t, _, e1, q1⟩ := hK.ty h1
  obtain ⟨_, t2, _, e2, q2⟩ := hR.ty h2
  rw [e1] at e2
  injection e2 with e3
  injection e3 with _ e4
  subst e4
  exact kr_ty q1 q2
theorem KAt.noTs (h : KAt w K0 Y n m vs l T) : ∀ k, XFoot Y k → NoT w k := by
  obtain ⟨gt, pt, hd, _⟩ := h.disk
  obtain ⟨row, hr, _⟩ := h.lines
  obtain ⟨row2, hr2, _⟩ := h.caps.head
  rintro k (e | e | e | e)
  · rw [e]; exact noT_of hr (by decide) (by decide) (by decide)
  · rw [e]; exact noT_of hd.head (by decide) (by decide) (by decide)
  · rw [e]; exact noT_of hd.row (by decide) (by decide) (by decide)
  · rw [e]; exact noT_of hr2 (by decide) (by decide) (by decide)
/-- Both kernels, and that they tell the same. -/
structure Duo (w : World) (K0 : Nat) (Y : Yd) (X : Nat) (Q : Rq) (n m : Nat) (vs : List Int) (l : Lines) (T : Tab) (L : List Ce) (last : Int) : Prop where
  ker : KAt w K0 Y n m vs l T
  ref : RkX w X Q n m vs l L last
  rel : Rel T L last
  pos : 0 ≤ last
  n2 : n ≤ 1000
/-- What calls of both write. -/
def BF (Y : Yd) (X : Nat) (Q : Rq) (k : Nat) : Prop := XFoot Y k ∨ RF X Q k
theorem Duo.below (h : Duo w K0 Y X Q n m vs l T L last) (hb : Below w.heap.size w W) : Duo W K0 Y X Q n m vs l T L last :=
  ⟨h.ker.below hb, h.ref.below hb, h.rel, h.pos, h.n2⟩
theorem Duo.lx (h : Duo w K0 Y X Q n m vs l T L last) (hl : L.length ≤ 800) (ht : last ≤ 800) : Lx T L last n := ⟨h.rel, h.ker.inv, h.ker.n1, h.n2, h.pos, by omega, by omega⟩
/-- The reference, behind a call of the code's kernel. -/
theorem Duo.other (h : Duo w K0 Y X Q n m vs l T L last) (hu : UpdP (XFoot Y) w w1) : RkX w1 X Q n m vs l L last :=
  h.ref.keepP hu (fun k hr hx => kr_apart h.ker h.ref (Or.inl hx) hr) h.ker.noTs
/-- The code's kernel, behind a call of the reference. -/
theorem keepR {m2 : Nat} {vs2 : List Int} {l2 : Lines} (hK : KAt w K0 Y n m vs l T) (hR : RkX w X Q n m2 vs2 l2 L last) (hu : UpdP (RF X Q) w w1) : KAt w1 K0 Y n m vs l T :=
  hK.keepP hu (fun hr => kr_apart hK hR (Or.inr rfl) hr) (fun k hx hr => kr_apart hK hR (Or.inl hx) hr) (fun k hr => (hR.noT k hr).1)
/-- What a deed of an environment may change. -/
def Step (n : Nat) (e : Int) (T T' : Tab) (vs vs' : List Int) (l l' : Lines) : Prop :=
  (vs' = vs ∧ l' = l ∧ ((∃ f k, T' = xallocT T n e f k) ∨ (∃ s q r, T' = giveT T e s q r) ∨ (∃ s, T' = revT T e s) ∨ T' = goneT T e 64 ∨ T' = T)) ∨
  (T' = T ∧ ((vs' = vs ∧ ∃ b, l' = getL l vs b) ∨ (vs' = vs ∧ ∃ (s : Int) (b : Nat) (ws : List Int), mayX T e s b 2 = true ∧ l' = putL l b ws) ∨ (vs' = syncV l vs n ∧ l' = syncL l n)))
/-- What a deed with both leaves. -/
def DoneS (w w' : World) (K0 : Nat) (Y : Yd) (X : Nat) (Q : Rq) (n m : Nat) (e : Int) (vs : List Int) (l : Lines) (T : Tab) (L : List Ce) (last : Int) : Prop :=
  ∃ vs' l' T' L' last', Duo w' K0 Y X Q n (m + n) vs' l' T' L' last' ∧ L'.length ≤ L.length + 1 ∧ last' ≤ last + 1 ∧ UpdP (BF Y X Q) w w' ∧ Step n e T T' vs vs' l l'
theorem bfK (hu : UpdP (XFoot Y) w w1) : UpdP (BF Y X Q) w w1 := hu.mono (fun k h => Or.inl h)
theorem bfR (hu : UpdP (RF X Q) w w1) : UpdP (BF Y X Q) w w1 := hu.mono (fun k h => Or.inr h)
theorem Gw.done {m1 m2 : Nat} {e : Int} (hn : n ≤ 1000) (hK : KAt w2 K0 Y n m1 vs' l' T') (hG : Gw w2 X Q n m2 vs' l' L last T') (h1 : m1 ≤ m + n) (h2 : m2 ≤ m + n) (hu : UpdP (BF Y X Q) w w2) (hs : Step n e T T' vs vs' l l') : DoneS w w2 K0 Y X Q n m e vs l T L last := by
  obtain ⟨L', last', hR, hr, hp, q1, q2⟩ := hG
  exact ⟨vs', l', T', L', last', ⟨hK.mono h1, hR.mono h2, hr, hp, hn⟩, q1, q2, hu, hs⟩
theorem RkX.gw (h : RkX w2 X Q n m vs l L last) (hr : Rel T L last) (hp : 0 ≤ last) : Gw w2 X Q n m vs l L last T := ⟨L, last, h, hr, hp, by omega, by omega⟩
theorem Step.get {e : Int} (s b : Int) : Step n e T T vs vs l (getLl T l vs e s b) := by
  unfold getLl
  split
  · exact Or.inr ⟨rfl, Or.inl ⟨rfl, _, rfl⟩⟩
  · exact Or.inl ⟨rfl, rfl, Or.inr (Or.inr (Or.inr (Or.inr rfl)))⟩
theorem Step.put {e : Int} (hI : XInv T n) (s b : Int) (ws : List Int) : Step n e T T vs vs l (putLl T l e s b ws) := by
  unfold putLl
  split
  · rename_i hm
    split
    · refine Or.inr ⟨rfl, Or.inr (Or.inl ⟨rfl, s, b.toNat, ws, ?_, rfl⟩)⟩
      have := (mayX_in hI hm).1
      rw [show ((b.toNat : Nat) : Int) = b from by omega]
      exact hm
    · exact Or.inl ⟨rfl, rfl, Or.inr (Or.inr (Or.inr (Or.inr rfl)))⟩
  · exact Or.inl ⟨rfl, rfl, Or.inr (Or.inr (Or.inr (Or.inr rfl)))⟩
theorem Step.same {e : Int} : Step n e T T vs vs l l := Or.inl ⟨rfl, rfl, Or.inr (Or.inr (Or.inr (Or.inr rfl)))⟩
/-- The deed's box is nobody's. -/
theorem Duo.noB (h : Duo w K0 Y X Q n m vs l T L last) {D : Nat} {d : De} (hx : w.heap[D]? = some (.cells (deRow d) 62)) : ¬ XFoot Y D ∧ ¬ RF X Q D := by
  refine ⟨fun e => ?_, fun e => ?_⟩
  · obtain ⟨_, t, _, e1, q1⟩ := h.ker.ty (Or.inl e)
    exact apart hx e1 (fun q => by subst q; revert q1; decide) rfl
  · obtain ⟨_, t, _, e1, q1⟩ := h.ref.ty e
    exact apart hx e1 (fun q => by subst q; revert q1; decide) rfl
theorem de_keep {P : Nat → Prop} {D : Nat} {d : De} (hu : UpdP P W w1) (hx : W.heap[D]? = some (.cells (deRow d) 62)) (hB : ¬ P D) : w1.heap[D]? = some (.cells (deRow d) 62) := (hu.block D (lt_of_heap hx) hB).trans hx
theorem deC {D : Nat} {d : De} (hx : w.heap[D]? = some (.cells (deRow d) 62)) : (w.cell? ⟨D, 0, none⟩ = some (.int .i64 d.kind) ∧ w.cell? ⟨D, 1, none⟩ = some (.int .i64 d.env) ∧ w.cell? ⟨D, 2, none⟩ = some (.int .i64 d.slot) ∧ w.cell? ⟨D, 3, none⟩ = some (.int .i64 d.dst)) ∧
    w.cell? ⟨D, 4, none⟩ = some (.int .i64 d.first) ∧ w.cell? ⟨D, 5, none⟩ = some (.int .i64 d.n) ∧ w.cell? ⟨D, 6, none⟩ = some (.int .u64 d.v) := by
  refine ⟨⟨?_, ?_, ?_, ?_⟩, ?_, ?_, ?_⟩ <;> (rw [cell_of_heap hx]; rfl)

set_option maxRecDepth 100000 in
set_option maxHeartbeats 4000000 in
theorem do_0 (h : Duo w K0 Y X Q n m vs l T L last) (hl : L.length ≤ 800) (ht : last ≤ 800) (hm : m ≤ 800000) (d : De) (hfit : d.Fit) (hkd : d.kind = 0) :
    Calls Try.prog 31 #[ptr K0, ptr X, .agg (deRow d)] w fun x w' => ∃ b, x = .returned (.bool b) ∧ DoneS w w' K0 Y X Q n m d.env vs l T L last := by
  obtain ⟨kd, en, sl, ds, fi, nn, vv⟩ := d
  obtain ⟨-, he, hs, hd', hfi, hnn⟩ := hfit
  dsimp only at hkd he hs hd' hfi hnn
  subst hkd
  obtain ⟨W, hW⟩ : ∃ W, W = w.alloc (.cells (deRow ⟨0, en, sl, ds, fi, nn, vv⟩) 62) := ⟨_, rfl⟩
  have hbW : Below w.heap.size w W := by rw [hW]; exact below_alloc _ _
  have hx : W.heap[w.heap.size]? = some (.cells (deRow ⟨0, en, sl, ds, fi, nn, vv⟩) 62) := by rw [hW]; exact heap_alloc_new _ _
  have hd := h.below hbW
  have hlk := hd.lx hl ht
  have hn := h.n2
  have hn1 := h.ker.n1
  have HLk : Hid _ := hlk
  obtain ⟨a1, a2⟩ := hd.noB hx
  have HD : Hid _ := hd
  have HB : Hid (UpdP (BF Y X Q) w W) := UpdP.of_below hbW
  have HX : Hid _ := hx
  have hop := xalloc_at hd.ker en fi nn hfi hnn
  clear hbW hx hd hlk h hl ht
  dsimp only [deRow] at hW ⊢
  go_enter Try.func31, Try.ntmps31
  go_wp2_with fail
  rw [← hW]
  clear hW
  refine hop.mono ?_
  rintro x w1 ⟨rfl, hK1, hu1⟩
  have hR1 := HD.out.other hu1
  have hx1 := de_keep hu1 HX.out a1
  have hrf := rxalloc_at hR1 HLk.out en fi nn hfi hnn
  obtain ⟨⟨g0, g1, g2, g3⟩, g4, g5, g6⟩ := deC hx1
  dsimp only at g0 g1 g2 g3 g4 g5 g6
  have HK1 : Hid _ := hK1
  have HR1 : Hid _ := hR1
  have HU1 : Hid (UpdP (BF Y X Q) w w1) := HB.out.trans (bfK hu1)
  clear hK1 hR1 hx1 hu1 hop
  go_wp2_with fail
  refine hrf.mono ?_
  rintro x w2 ⟨rfl, hG2, hu2⟩
  have HF : Hid (DoneS w w2 K0 Y X Q n m en vs l T L last) := hG2.done hn (keepR HK1.out HR1.out hu2) (by omega) (by omega) (HU1.out.trans (bfR hu2)) (Or.inl ⟨rfl, rfl, Or.inl ⟨fi, nn, rfl⟩⟩)
  clear hG2 hu2 hrf
  go_wp2
  go_ret
  exact ⟨_, rfl, HF.out⟩

set_option maxRecDepth 100000 in
set_option maxHeartbeats 4000000 in
theorem do_1 (h : Duo w K0 Y X Q n m vs l T L last) (hl : L.length ≤ 800) (ht : last ≤ 800) (hm : m ≤ 800000) (d : De) (hfit : d.Fit) (hkd : d.kind = 1) :
    Calls Try.prog 31 #[ptr K0, ptr X, .agg (deRow d)] w fun x w' => ∃ b, x = .returned (.bool b) ∧ DoneS w w' K0 Y X Q n m d.env vs l T L last := by
  obtain ⟨kd, en, sl, ds, fi, nn, vv⟩ := d
  obtain ⟨-, he, hs, hd', hfi, hnn⟩ := hfit
  dsimp only at hkd he hs hd' hfi hnn
  subst hkd
  obtain ⟨W, hW⟩ : ∃ W, W = w.alloc (.cells (deRow ⟨1, en, sl, ds, fi, nn, vv⟩) 62) := ⟨_, rfl⟩
  have hbW : Below w.heap.size w W := by rw [hW]; exact below_alloc _ _
  have hx : W.heap[w.heap.size]? = some (.cells (deRow ⟨1, en, sl, ds, fi, nn, vv⟩) 62) := by rw [hW]; exact heap_alloc_new _ _
  have hd := h.below hbW
  have hlk := hd.lx hl ht
  have hn := h.n2
  have hn1 := h.ker.n1
  have HLk : Hid _ := hlk
  obtain ⟨a1, a2⟩ := hd.noB hx
  have HD : Hid _ := hd
  have HB : Hid (UpdP (BF Y X Q) w W) := UpdP.of_below hbW
  have HX : Hid _ := hx
  have hop := xgrant_at hd.ker en sl ds nn
  clear hbW hx hd hlk h hl ht
  dsimp only [deRow] at hW ⊢
  go_enter Try.func31, Try.ntmps31
  go_wp2_with fail
  rw [← hW]
  clear hW
  refine hop.mono ?_
  rintro x w1 ⟨rfl, hK1, hu1⟩
  have hR1 := HD.out.other hu1
  have hx1 := de_keep hu1 HX.out a1
  have hrf := rxgive_at (hR1.below (w' := w1.drew) ⟨rfl, rfl, rfl, Nat.le_refl _, fun _ _ => rfl⟩) HLk.out en sl ds nn
  obtain ⟨⟨g0, g1, g2, g3⟩, g4, g5, g6⟩ := deC hx1
  dsimp only at g0 g1 g2 g3 g4 g5 g6
  have c1 := hR1.x1
  have HK1 : Hid _ := hK1
  have HR1 : Hid _ := hR1
  have HX1 : Hid _ := hx1
  have HU1 : Hid (UpdP (BF Y X Q) w w1) := HB.out.trans (bfK hu1)
  clear hK1 hR1 hx1 hu1 hop
  go_wp2_with fail
  refine wp_region_held_drew (S := fun w' => w'.cell? ⟨X, 1, none⟩ = some (ptr Q.c) ∧ w'.cell? ⟨w.heap.size, 1, none⟩ = some (.int .i64 en) ∧ w'.cell? ⟨w.heap.size, 2, none⟩ = some (.int .i64 sl) ∧ w'.cell? ⟨w.heap.size, 3, none⟩ = some (.int .i64 ds) ∧ w'.cell? ⟨w.heap.size, 5, none⟩ = some (.int .i64 nn)) (by kernel_rfl) ⟨c1, g1, g2, g3, g5⟩ (fun hHeld => ?_)
  refine wpAnyH_take (i := 0) (v := ?_) rfl (by kernel_rfl) (by kernel_rfl) (by kernel_rfl) (fun _ _ _ h => h) (Or.inl ⟨by kernel_rfl, ?_⟩) (by assumption) ?_
  rotate_left
  · (intro w hSw; (try dsimp only at hSw); go_simp) <;> with_reducible rfl
  (try simp only [Act.put, List.getElem_toArray, List.getElem_cons_zero, List.setIfInBounds_toArray, List.set_cons_zero, List.set_cons_succ])
  refine wpAnyH_take (i := 1) (v := ?_) rfl (by kernel_rfl) (by kernel_rfl) (by kernel_rfl) (fun _ _ _ h => h) (Or.inl ⟨by kernel_rfl, ?_⟩) (by assumption) ?_
  rotate_left
  · (intro w hSw; (try dsimp only at hSw); go_simp) <;> with_reducible rfl
  (try simp only [Act.put, List.getElem_toArray, List.getElem_cons_zero, List.getElem_cons_succ, List.setIfInBounds_toArray, List.set_cons_zero, List.set_cons_succ])
  refine wpAnyH_take (i := 2) (v := ?_) rfl (by kernel_rfl) (by kernel_rfl) (by kernel_rfl) (fun _ _ _ h => h) (Or.inl ⟨by kernel_rfl, ?_⟩) (by assumption) ?_
  rotate_left
  · (intro w hSw; (try dsimp only at hSw); go_simp) <;> with_reducible rfl
  (try simp only [Act.put, List.getElem_toArray, List.getElem_cons_zero, List.getElem_cons_succ, List.setIfInBounds_toArray, List.set_cons_zero, List.set_cons_succ])
  refine wpAnyH_take (i := 3) (v := ?_) rfl (by kernel_rfl) (by kernel_rfl) (by kernel_rfl) (fun _ _ _ h => h) (Or.inl ⟨by kernel_rfl, ?_⟩) (by assumption) ?_
  rotate_left
  · (intro w hSw; (try dsimp only at hSw); go_simp) <;> with_reducible rfl
  (try simp only [Act.put, List.getElem_toArray, List.getElem_cons_zero, List.getElem_cons_succ, List.setIfInBounds_toArray, List.set_cons_zero, List.set_cons_succ])
  refine wpAnyH_take (i := 4) (v := ?_) rfl (by kernel_rfl) (by kernel_rfl) (by kernel_rfl) (fun _ _ _ h => h) (Or.inl ⟨by kernel_rfl, ?_⟩) (by assumption) ?_
  rotate_left
  · (intro w hSw; (try dsimp only at hSw); go_simp) <;> with_reducible rfl
  (try simp only [Act.put, List.getElem_toArray, List.getElem_cons_zero, List.getElem_cons_succ, List.setIfInBounds_toArray, List.set_cons_zero, List.set_cons_succ])
  refine wpAnyH_take (i := 5) (v := ?_) rfl (by kernel_rfl) (by kernel_rfl) (by kernel_rfl) (fun _ _ _ h => h) (Or.inl ⟨by kernel_rfl, ?_⟩) (by assumption) ?_
  rotate_left
  · (intro w hSw; (try dsimp only at hSw); go_simp) <;> with_reducible rfl
  (try simp only [Act.put, List.getElem_toArray, List.getElem_cons_zero, List.getElem_cons_succ, List.setIfInBounds_toArray, List.set_cons_zero, List.set_cons_succ])
  refine wpAnyH_take (i := 6) (v := ?_) rfl (by kernel_rfl) (by kernel_rfl) (by kernel_rfl) (fun _ _ _ h => h) (Or.inl ⟨by kernel_rfl, ?_⟩) (by assumption) ?_
  rotate_left
  · (intro w hSw; (try dsimp only at hSw); go_simp) <;> with_reducible rfl
  (try simp only [Act.put, List.getElem_toArray, List.getElem_cons_zero, List.getElem_cons_succ, List.setIfInBounds_toArray, List.set_cons_zero, List.set_cons_succ])
  refine wpAnyH_take (i := 7) (v := ?_) rfl (by kernel_rfl) (by kernel_rfl) (by kernel_rfl) (fun _ _ _ h => h) (Or.inl ⟨by kernel_rfl, ?_⟩) (by assumption) ?_
  rotate_left
  · (intro w hSw; (try dsimp only at hSw); go_simp) <;> with_reducible rfl
  (try simp only [Act.put, List.getElem_toArray, List.getElem_cons_zero, List.getElem_cons_succ, List.setIfInBounds_toArray, List.set_cons_zero, List.set_cons_succ])
  refine wpAnyH_take (i := 8) (v := ?_) rfl (by kernel_rfl) (by kernel_rfl) (by kernel_rfl) (fun _ _ _ h => h) (Or.inl ⟨by kernel_rfl, ?_⟩) (by assumption) ?_
  rotate_left
  · (intro w hSw; (try dsimp only at hSw); go_simp) <;> with_reducible rfl
  (try simp only [Act.put, List.getElem_toArray, List.getElem_cons_zero, List.getElem_cons_succ, List.setIfInBounds_toArray, List.set_cons_zero, List.set_cons_succ])
  refine wpAnyH_take (i := 9) (v := ?_) rfl (by kernel_rfl) (by kernel_rfl) (by kernel_rfl) (fun _ _ _ h => h) (Or.inl ⟨by kernel_rfl, ?_⟩) (by assumption) ?_
  rotate_left
  · (intro w hSw; (try dsimp only at hSw); go_simp) <;> with_reducible rfl
  (try simp only [Act.put, List.getElem_toArray, List.getElem_cons_zero, List.getElem_cons_succ, List.setIfInBounds_toArray, List.set_cons_zero, List.set_cons_succ])
  refine wpAnyH_take (i := 10) (v := ?_) rfl (by kernel_rfl) (by kernel_rfl) (by kernel_rfl) (fun _ _ _ h => h) (Or.inl ⟨by kernel_rfl, ?_⟩) (by assumption) ?_
  rotate_left
  · (intro w hSw; (try dsimp only at hSw); go_simp) <;> with_reducible rfl
  (try simp only [Act.put, List.getElem_toArray, List.getElem_cons_zero, List.getElem_cons_succ, List.setIfInBounds_toArray, List.set_cons_zero, List.set_cons_succ])
  refine wpAnyH_take (i := 11) (v := ?_) rfl (by kernel_rfl) (by kernel_rfl) (by kernel_rfl) (fun _ _ _ h => h) (Or.inl ⟨by kernel_rfl, ?_⟩) (by assumption) ?_
  rotate_left
  · (intro w hSw; (try dsimp only at hSw); go_simp) <;> with_reducible rfl
  (try simp only [Act.put, List.getElem_toArray, List.getElem_cons_zero, List.getElem_cons_succ, List.setIfInBounds_toArray, List.set_cons_zero, List.set_cons_succ])
  refine wpAnyH_ready (rs := [12]) (by kernel_rfl) (by simp) ?_
  refine AllReadyH.cons rfl (fun K hK => ?_) AllReadyH.nil
  go_simp
  refine hrf.mono ?_
  rintro x w2 ⟨rfl, hG2, hu2⟩
  have hu2' : UpdP (RF X Q) w1 w2 := UpdP.trans (b := w1.drew) ⟨rfl, rfl, rfl, Nat.le_refl _, fun _ _ _ => rfl⟩ hu2
  have hx2 := de_keep hu2' HX1.out a2
  obtain ⟨⟨-, k1, k2, k3⟩, -, k5, -⟩ := deC hx2
  dsimp only at k1 k2 k3 k5
  have c2 : w2.cell? ⟨X, 1, none⟩ = some (ptr Q.c) := by
    obtain ⟨L', last', hR', _⟩ := hG2
    exact hR'.x1
  have HF : Hid (DoneS w w2 K0 Y X Q n m en vs l T L last) := hG2.done hn (keepR HK1.out HR1.out hu2') (by omega) (by omega) (HU1.out.trans (bfR hu2')) (Or.inl ⟨rfl, rfl, Or.inr (Or.inl ⟨sl, ds, nn, rfl⟩)⟩)
  clear hG2 hu2 hu2' hrf hx2
  refine hK.out _ _ ⟨c2, k1, k2, k3, k5⟩ (fun hHeld => ?_)
  clear hK K
  (try simp only [Act.put, List.getElem_toArray, List.getElem_cons_zero, List.getElem_cons_succ, List.setIfInBounds_toArray, List.set_cons_zero, List.set_cons_succ])
  refine wpAnyH_take (i := 13) (v := ?_) rfl (by kernel_rfl) (by kernel_rfl) (by kernel_rfl) (fun _ _ _ h => h) (Or.inl ⟨by kernel_rfl, ?_⟩) (by assumption) ?_
  rotate_left
  · (intro w hSw; (try dsimp only at hSw); go_simp) <;> with_reducible rfl
  (try simp only [Act.put, List.getElem_toArray, List.getElem_cons_zero, List.getElem_cons_succ, List.setIfInBounds_toArray, List.set_cons_zero, List.set_cons_succ])
  refine wpAnyH_take (i := 14) (v := ?_) rfl (by kernel_rfl) (by kernel_rfl) (by kernel_rfl) (fun _ _ _ h => h) (Or.inl ⟨by kernel_rfl, ?_⟩) (by assumption) ?_
  rotate_left
  · (intro w hSw; (try dsimp only at hSw); go_simp) <;> with_reducible rfl
  (try simp only [Act.put, List.getElem_toArray, List.getElem_cons_zero, List.getElem_cons_succ, List.setIfInBounds_toArray, List.set_cons_zero, List.set_cons_succ])
  refine wpAnyH_take (i := 15) (v := ?_) rfl (by kernel_rfl) (by kernel_rfl) (by kernel_rfl) (fun _ _ _ h => h) (Or.inl ⟨by kernel_rfl, ?_⟩) (by assumption) ?_
  rotate_left
  · (intro w hSw; (try dsimp only at hSw); go_simp) <;> with_reducible rfl
  (try simp only [Act.put, List.getElem_toArray, List.getElem_cons_zero, List.getElem_cons_succ, List.setIfInBounds_toArray, List.set_cons_zero, List.set_cons_succ])
  refine wpAnyH_take (i := 16) (v := ?_) rfl (by kernel_rfl) (by kernel_rfl) (by kernel_rfl) (fun _ _ _ h => h) (Or.inl ⟨by kernel_rfl, ?_⟩) (by assumption) ?_
  rotate_left
  · (intro w hSw; (try dsimp only at hSw); go_simp) <;> with_reducible rfl
  (try simp only [Act.put, List.getElem_toArray, List.getElem_cons_zero, List.getElem_cons_succ, List.setIfInBounds_toArray, List.set_cons_zero, List.set_cons_succ])
  refine wpAnyH_take (i := 17) (v := ?_) rfl (by kernel_rfl) (by kernel_rfl) (by kernel_rfl) (fun _ _ _ h => h) (Or.inl ⟨by kernel_rfl, ?_⟩) (by assumption) ?_
  rotate_left
  · (intro w hSw; (try dsimp only at hSw); go_simp) <;> with_reducible rfl
  (try simp only [Act.put, List.getElem_toArray, List.getElem_cons_zero, List.getElem_cons_succ, List.setIfInBounds_toArray, List.set_cons_zero, List.set_cons_succ])
  refine wpAnyH_done (by kernel_rfl) ?_ _
  go_wp2
  go_ret
  exact ⟨_, rfl, HF.out⟩

set_option maxRecDepth 100000 in
set_option maxHeartbeats 4000000 in
theorem do_2 (h : Duo w K0 Y X Q n m vs l T L last) (hl : L.length ≤ 800) (ht : last ≤ 800) (hm : m ≤ 800000) (d : De) (hfit : d.Fit) (hkd : d.kind = 2) :
    Calls Try.prog 31 #[ptr K0, ptr X, .agg (deRow d)] w fun x w' => ∃ b, x = .returned (.bool b) ∧ DoneS w w' K0 Y X Q n m d.env vs l T L last := by
  obtain ⟨kd, en, sl, ds, fi, nn, vv⟩ := d
  obtain ⟨-, he, hs, hd', hfi, hnn⟩ := hfit
  dsimp only at hkd he hs hd' hfi hnn
  subst hkd
  obtain ⟨W, hW⟩ : ∃ W, W = w.alloc (.cells (deRow ⟨2, en, sl, ds, fi, nn, vv⟩) 62) := ⟨_, rfl⟩
  have hbW : Below w.heap.size w W := by rw [hW]; exact below_alloc _ _
  have hx : W.heap[w.heap.size]? = some (.cells (deRow ⟨2, en, sl, ds, fi, nn, vv⟩) 62) := by rw [hW]; exact heap_alloc_new _ _
  have hd := h.below hbW
  have hlk := hd.lx hl ht
  have hn := h.n2
  have hn1 := h.ker.n1
  have HLk : Hid _ := hlk
  obtain ⟨a1, a2⟩ := hd.noB hx
  have HD : Hid _ := hd
  have HB : Hid (UpdP (BF Y X Q) w W) := UpdP.of_below hbW
  have HX : Hid _ := hx
  have hrf := rxrevoke_at (hd.ref.below (w' := W.drew) ⟨rfl, rfl, rfl, Nat.le_refl _, fun _ _ => rfl⟩) hlk en sl
  have c1 := hd.ref.x1
  obtain ⟨⟨g0, g1, g2, g3⟩, g4, g5, g6⟩ := deC hx
  dsimp only at g0 g1 g2 g3 g4 g5 g6
  clear hbW hx hd hlk h hl ht
  dsimp only [deRow] at hW ⊢
  go_enter Try.func31, Try.ntmps31
  go_wp2_with fail
  rw [← hW]
  clear hW
  refine wp_region_held_drew (S := fun w' => w'.cell? ⟨X, 1, none⟩ = some (ptr Q.c) ∧ w'.cell? ⟨w.heap.size, 1, none⟩ = some (.int .i64 en) ∧ w'.cell? ⟨w.heap.size, 2, none⟩ = some (.int .i64 sl)) (by kernel_rfl) ⟨c1, g1, g2⟩ (fun hHeld => ?_)
  refine wpAnyH_take (i := 0) (v := ?_) rfl (by kernel_rfl) (by kernel_rfl) (by kernel_rfl) (fun _ _ _ h => h) (Or.inl ⟨by kernel_rfl, ?_⟩) (by assumption) ?_
  rotate_left
  · (intro w hSw; (try dsimp only at hSw); go_simp) <;> with_reducible rfl
  (try simp only [Act.put, List.getElem_toArray, List.getElem_cons_zero, List.setIfInBounds_toArray, List.set_cons_zero, List.set_cons_succ])
  refine wpAnyH_take (i := 1) (v := ?_) rfl (by kernel_rfl) (by kernel_rfl) (by kernel_rfl) (fun _ _ _ h => h) (Or.inl ⟨by kernel_rfl, ?_⟩) (by assumption) ?_
  rotate_left
  · (intro w hSw; (try dsimp only at hSw); go_simp) <;> with_reducible rfl
  (try simp only [Act.put, List.getElem_toArray, List.getElem_cons_zero, List.getElem_cons_succ, List.setIfInBounds_toArray, List.set_cons_zero, List.set_cons_succ])
  refine wpAnyH_take (i := 2) (v := ?_) rfl (by kernel_rfl) (by kernel_rfl) (by kernel_rfl) (fun _ _ _ h => h) (Or.inl ⟨by kernel_rfl, ?_⟩) (by assumption) ?_
  rotate_left
  · (intro w hSw; (try dsimp only at hSw); go_simp) <;> with_reducible rfl
  (try simp only [Act.put, List.getElem_toArray, List.getElem_cons_zero, List.getElem_cons_succ, List.setIfInBounds_toArray, List.set_cons_zero, List.set_cons_succ])
  refine wpAnyH_take (i := 3) (v := ?_) rfl (by kernel_rfl) (by kernel_rfl) (by kernel_rfl) (fun _ _ _ h => h) (Or.inl ⟨by kernel_rfl, ?_⟩) (by assumption) ?_
  rotate_left
  · (intro w hSw; (try dsimp only at hSw); go_simp) <;> with_reducible rfl
  (try simp only [Act.put, List.getElem_toArray, List.getElem_cons_zero, List.getElem_cons_succ, List.setIfInBounds_toArray, List.set_cons_zero, List.set_cons_succ])
  refine wpAnyH_take (i := 4) (v := ?_) rfl (by kernel_rfl) (by kernel_rfl) (by kernel_rfl) (fun _ _ _ h => h) (Or.inl ⟨by kernel_rfl, ?_⟩) (by assumption) ?_
  rotate_left
  · (intro w hSw; (try dsimp only at hSw); go_simp) <;> with_reducible rfl
  (try simp only [Act.put, List.getElem_toArray, List.getElem_cons_zero, List.getElem_cons_succ, List.setIfInBounds_toArray, List.set_cons_zero, List.set_cons_succ])
  refine wpAnyH_take (i := 5) (v := ?_) rfl (by kernel_rfl) (by kernel_rfl) (by kernel_rfl) (fun _ _ _ h => h) (Or.inl ⟨by kernel_rfl, ?_⟩) (by assumption) ?_
  rotate_left
  · (intro w hSw; (try dsimp only at hSw); go_simp) <;> with_reducible rfl
  (try simp only [Act.put, List.getElem_toArray, List.getElem_cons_zero, List.getElem_cons_succ, List.setIfInBounds_toArray, List.set_cons_zero, List.set_cons_succ])
  refine wpAnyH_take (i := 6) (v := ?_) rfl (by kernel_rfl) (by kernel_rfl) (by kernel_rfl) (fun _ _ _ h => h) (Or.inl ⟨by kernel_rfl, ?_⟩) (by assumption) ?_
  rotate_left
  · (intro w hSw; (try dsimp only at hSw); go_simp) <;> with_reducible rfl
  (try simp only [Act.put, List.getElem_toArray, List.getElem_cons_zero, List.getElem_cons_succ, List.setIfInBounds_toArray, List.set_cons_zero, List.set_cons_succ])
  refine wpAnyH_take (i := 7) (v := ?_) rfl (by kernel_rfl) (by kernel_rfl) (by kernel_rfl) (fun _ _ _ h => h) (Or.inl ⟨by kernel_rfl, ?_⟩) (by assumption) ?_
  rotate_left
  · (intro w hSw; (try dsimp only at hSw); go_simp) <;> with_reducible rfl
  (try simp only [Act.put, List.getElem_toArray, List.getElem_cons_zero, List.getElem_cons_succ, List.setIfInBounds_toArray, List.set_cons_zero, List.set_cons_succ])
  refine wpAnyH_ready (rs := [8]) (by kernel_rfl) (by simp) ?_
  refine AllReadyH.cons rfl (fun K hK => ?_) AllReadyH.nil
  go_simp
  refine hrf.mono ?_
  rintro x w1 ⟨N, rfl, hG1, hu1⟩
  have hu1' : UpdP (RF X Q) W w1 := UpdP.trans (b := W.drew) ⟨rfl, rfl, rfl, Nat.le_refl _, fun _ _ _ => rfl⟩ hu1
  have hx1 := de_keep hu1' HX.out a2
  obtain ⟨⟨-, k1, k2, -⟩, -, -, -⟩ := deC hx1
  dsimp only at k1 k2
  have c2 : w1.cell? ⟨X, 1, none⟩ = some (ptr Q.c) := by
    obtain ⟨L', last', hR', _⟩ := hG1
    exact hR'.x1
  have hK1 := keepR HD.out.ker HD.out.ref hu1'
  have hop := xrevoke_at hK1 en sl
  have HK1 : Hid _ := hK1
  have HG1 : Hid (Gw w1 X Q n m vs l L last (revT T en sl)) := hG1
  have HU1 : Hid (UpdP (BF Y X Q) w w1) := HB.out.trans (bfR hu1')
  clear hG1 hu1 hu1' hrf hx1 hK1
  refine hK.out _ _ ⟨c2, k1, k2⟩ (fun hHeld => ?_)
  clear hK K
  (try simp only [Act.put, List.getElem_toArray, List.getElem_cons_zero, List.getElem_cons_succ, List.setIfInBounds_toArray, List.set_cons_zero, List.set_cons_succ])
  refine wpAnyH_take (i := 9) (v := ?_) rfl (by kernel_rfl) (by kernel_rfl) (by kernel_rfl) (fun _ _ _ h => h) (Or.inl ⟨by kernel_rfl, ?_⟩) (by assumption) ?_
  rotate_left
  · (intro w hSw; (try dsimp only at hSw); go_simp) <;> with_reducible rfl
  (try simp only [Act.put, List.getElem_toArray, List.getElem_cons_zero, List.getElem_cons_succ, List.setIfInBounds_toArray, List.set_cons_zero, List.set_cons_succ])
  refine wpAnyH_take (i := 10) (v := ?_) rfl (by kernel_rfl) (by kernel_rfl) (by kernel_rfl) (fun _ _ _ h => h) (Or.inl ⟨by kernel_rfl, ?_⟩) (by assumption) ?_
  rotate_left
  · (intro w hSw; (try dsimp only at hSw); go_simp) <;> with_reducible rfl
  (try simp only [Act.put, List.getElem_toArray, List.getElem_cons_zero, List.getElem_cons_succ, List.setIfInBounds_toArray, List.set_cons_zero, List.set_cons_succ])
  refine wpAnyH_take (i := 11) (v := ?_) rfl (by kernel_rfl) (by kernel_rfl) (by kernel_rfl) (fun _ _ _ h => h) (Or.inl ⟨by kernel_rfl, ?_⟩) (by assumption) ?_
  rotate_left
  · (intro w hSw; (try dsimp only at hSw); go_simp) <;> with_reducible rfl
  (try simp only [Act.put, List.getElem_toArray, List.getElem_cons_zero, List.getElem_cons_succ, List.setIfInBounds_toArray, List.set_cons_zero, List.set_cons_succ])
  refine wpAnyH_take (i := 12) (v := ?_) rfl (by kernel_rfl) (by kernel_rfl) (by kernel_rfl) (fun _ _ _ h => h) (Or.inl ⟨by kernel_rfl, ?_⟩) (by assumption) ?_
  rotate_left
  · (intro w hSw; (try dsimp only at hSw); go_simp) <;> with_reducible rfl
  (try simp only [Act.put, List.getElem_toArray, List.getElem_cons_zero, List.getElem_cons_succ, List.setIfInBounds_toArray, List.set_cons_zero, List.set_cons_succ])
  refine wpAnyH_take (i := 13) (v := ?_) rfl (by kernel_rfl) (by kernel_rfl) (by kernel_rfl) (fun _ _ _ h => h) (Or.inl ⟨by kernel_rfl, ?_⟩) (by assumption) ?_
  rotate_left
  · (intro w hSw; (try dsimp only at hSw); go_simp) <;> with_reducible rfl
  (try simp only [Act.put, List.getElem_toArray, List.getElem_cons_zero, List.getElem_cons_succ, List.setIfInBounds_toArray, List.set_cons_zero, List.set_cons_succ])
  refine wpAnyH_done (by kernel_rfl) ?_ _
  go_wp2_with fail
  refine hop.mono ?_
  rintro x w2 ⟨rfl, hK2, hu2⟩
  have HF : Hid (DoneS w w2 K0 Y X Q n m en vs l T L last) := by
    obtain ⟨L', last', hR', hr', hp', q1, q2⟩ := HG1.out
    have hR2 : RkX w2 X Q n m vs l L' last' := hR'.keepP hu2 (fun k hr hx => kr_apart HK1.out hR' (Or.inl hx) hr) HK1.out.noTs
    exact Gw.done hn hK2 ⟨L', last', hR2, hr', hp', q1, q2⟩ (by omega) (by omega) (HU1.out.trans (bfK hu2)) (Or.inl ⟨rfl, rfl, Or.inr (Or.inr (Or.inl ⟨sl, rfl⟩))⟩)
  clear hK2 hu2 hop
  go_wp2
  go_ret
  exact ⟨_, rfl, HF.out⟩

set_option maxRecDepth 100000 in
set_option maxHeartbeats 4000000 in
theorem do_3 (h : Duo w K0 Y X Q n m vs l T L last) (hl : L.length ≤ 800) (ht : last ≤ 800) (hm : m ≤ 800000) (d : De) (hfit : d.Fit) (hkd : d.kind = 3) :
    Calls Try.prog 31 #[ptr K0, ptr X, .agg (deRow d)] w fun x w' => ∃ b, x = .returned (.bool b) ∧ DoneS w w' K0 Y X Q n m d.env vs l T L last := by
  obtain ⟨kd, en, sl, ds, fi, nn, vv⟩ := d
  obtain ⟨-, he, hs, hd', hfi, hnn⟩ := hfit
  dsimp only at hkd he hs hd' hfi hnn
  subst hkd
  obtain ⟨W, hW⟩ : ∃ W, W = w.alloc (.cells (deRow ⟨3, en, sl, ds, fi, nn, vv⟩) 62) := ⟨_, rfl⟩
  have hbW : Below w.heap.size w W := by rw [hW]; exact below_alloc _ _
  have hx : W.heap[w.heap.size]? = some (.cells (deRow ⟨3, en, sl, ds, fi, nn, vv⟩) 62) := by rw [hW]; exact heap_alloc_new _ _
  have hd := h.below hbW
  have hlk := hd.lx hl ht
  have hn := h.n2
  have hn1 := h.ker.n1
  have HLk : Hid _ := hlk
  obtain ⟨a1, a2⟩ := hd.noB hx
  have HD : Hid _ := hd
  have HB : Hid (UpdP (BF Y X Q) w W) := UpdP.of_below hbW
  have HX : Hid _ := hx
  have hop := xget_at hd.ker en sl fi hfi (by omega)
  cases hq : mayX T en sl fi 1 with
  | false =>
    have HA : Hid (getRr T en sl fi = 104 ∧ getWw T l vs en sl fi = [] ∧ getLl T l vs en sl fi = l) := by
      show _ ∧ _
      simp [getRr, getWw, getLl, hq]
    rw [HA.out.1, HA.out.2.1, HA.out.2.2] at hop
    clear HA
    clear hbW hx hd hlk h hl ht
    dsimp only [deRow] at hW ⊢
    go_enter Try.func31, Try.ntmps31
    go_wp2_with fail
    rw [← hW]
    clear hW
    refine hop.mono ?_
    rintro x w1 ⟨v1, rfl, hr1, hK1, hu1⟩
    have hR1 := HD.out.other hu1
    have hx1 := de_keep hu1 HX.out a1
    obtain ⟨⟨g0, g1, g2, g3⟩, g4, g5, g6⟩ := deC hx1
    dsimp only at g0 g1 g2 g3 g4 g5 g6
    have HK1 : Hid _ := hK1
    have HR1 : Hid _ := hR1
    have HV1 : Hid (URow W.heap.size w1 v1 []) := hr1
    have HU1 : Hid (UpdP (BF Y X Q) w w1) := HB.out.trans (bfK hu1)
    have hrf := rxget_no hR1 HLk.out en sl fi hfi hq
    clear hK1 hR1 hx1 hu1 hop hq hr1
    go_wp2_with fail
    refine hrf.mono ?_
    rintro x w2 ⟨rfl, hb2⟩
    have hvs := Di.words_same W.heap.size 0 v1 (.slice none 0 0) [] w2 (URow.keepT HV1.out (UpdP.of_below (P := fun _ => False) hb2) (fun _ q => q.elim)) (URow.nil _ _) (by simp)
    have HF : Hid (DoneS w w2 K0 Y X Q n m en vs l T L last) := Gw.done hn (HK1.out.below hb2) ((HR1.out.below hb2).gw HD.out.rel HD.out.pos) (by omega) (by omega) (HU1.out.trans (UpdP.of_below hb2)) Step.same
    clear hb2 hrf
    go_wp2_with fail
    refine hvs.mono ?_
    rintro x w3 ⟨rfl, hq3⟩
    have hb3 := Di.drewN_below hq3
    have HF3 : Hid (DoneS w w3 K0 Y X Q n m en vs l T L last) := by
      obtain ⟨vs', l', T', L', last', hD3, q1, q2, q3, q4⟩ := HF.out
      exact ⟨vs', l', T', L', last', hD3.below hb3, q1, q2, q3.trans (UpdP.of_below hb3), q4⟩
    clear hq3 hb3 hvs HF
    go_wp2
    go_ret
    exact ⟨_, rfl, HF3.out⟩
  | true =>
    obtain ⟨b0, b1⟩ := mayX_in hd.ker.inv hq
    obtain ⟨b, rfl⟩ := nat_of fi b0
    have HA : Hid (getRr T en sl b = 0 ∧ getWw T l vs en sl b = lookW l vs b ∧ getLl T l vs en sl b = getL l vs b) := by
      show _ ∧ _
      simp [getRr, getWw, getLl, hq]
    have HLW : Hid ((lookW l vs b).length = 32) := lookW_len hd.ker.linv hd.ker.len (by omega)
    rw [HA.out.1, HA.out.2.1, HA.out.2.2] at hop
    clear HA
    clear hbW hx hd hlk h hl ht
    dsimp only [deRow] at hW ⊢
    go_enter Try.func31, Try.ntmps31
    go_wp2_with fail
    rw [← hW]
    clear hW
    refine hop.mono ?_
    rintro x w1 ⟨v1, rfl, hr1, hK1, hu1⟩
    have hR1 := HD.out.other hu1
    have hx1 := de_keep hu1 HX.out a1
    obtain ⟨⟨g0, g1, g2, g3⟩, g4, g5, g6⟩ := deC hx1
    dsimp only at g0 g1 g2 g3 g4 g5 g6
    have HK1 : Hid _ := hK1
    have HR1 : Hid _ := hR1
    have HV1 : Hid (URow W.heap.size w1 v1 (lookW l vs b)) := hr1
    have HU1 : Hid (UpdP (BF Y X Q) w w1) := HB.out.trans (bfK hu1)
    have hrf := rxget_yes hR1 HLk.out en sl b hfi hq
    clear hK1 hR1 hx1 hu1 hop hq hr1
    go_wp2_with fail
    refine hrf.mono ?_
    rintro x w2 ⟨u2, rfl, hr2, hR2, hu2⟩
    have hvs := Di.words_same W.heap.size w1.heap.size v1 u2 _ w2 (URow.keepT HV1.out hu2 (fun k hk => (HR1.out.noT k hk).1)) hr2 (by rw [HLW.out]; omega)
    have HF : Hid (DoneS w w2 K0 Y X Q n m en vs l T L last) := Gw.done hn (keepR HK1.out HR1.out hu2) (hR2.gw HD.out.rel HD.out.pos) (by omega) (by omega) (HU1.out.trans (bfR hu2)) (Or.inr ⟨rfl, Or.inl ⟨rfl, _, rfl⟩⟩)
    clear hR2 hu2 hr2 hrf
    go_wp2_with fail
    refine hvs.mono ?_
    rintro x w3 ⟨rfl, hq3⟩
    have hb3 := Di.drewN_below hq3
    have HF3 : Hid (DoneS w w3 K0 Y X Q n m en vs l T L last) := by
      obtain ⟨vs', l', T', L', last', hD3, q1, q2, q3, q4⟩ := HF.out
      exact ⟨vs', l', T', L', last', hD3.below hb3, q1, q2, q3.trans (UpdP.of_below hb3), q4⟩
    clear hq3 hb3 hvs HF
    go_wp2
    go_ret
    exact ⟨_, rfl, HF3.out⟩

set_option maxRecDepth 100000 in
set_option maxHeartbeats 4000000 in
theorem do_4 (h : Duo w K0 Y X Q n m vs l T L last) (hl : L.length ≤ 800) (ht : last ≤ 800) (hm : m ≤ 800000) (d : De) (hfit : d.Fit) (hkd : d.kind = 4) :
    Calls Try.prog 31 #[ptr K0, ptr X, .agg (deRow d)] w fun x w' => ∃ b, x = .returned (.bool b) ∧ DoneS w w' K0 Y X Q n m d.env vs l T L last := by
  obtain ⟨kd, en, sl, ds, fi, nn, vv⟩ := d
  obtain ⟨-, he, hs, hd', hfi, hnn⟩ := hfit
  dsimp only at hkd he hs hd' hfi hnn
  subst hkd
  obtain ⟨W, hW⟩ : ∃ W, W = w.alloc (.cells (deRow ⟨4, en, sl, ds, fi, nn, vv⟩) 62) := ⟨_, rfl⟩
  have hbW : Below w.heap.size w W := by rw [hW]; exact below_alloc _ _
  have hx : W.heap[w.heap.size]? = some (.cells (deRow ⟨4, en, sl, ds, fi, nn, vv⟩) 62) := by rw [hW]; exact heap_alloc_new _ _
  have hd := h.below hbW
  have hlk := hd.lx hl ht
  have hn := h.n2
  have hn1 := h.ker.n1
  have HLk : Hid _ := hlk
  obtain ⟨a1, a2⟩ := hd.noB hx
  have HD : Hid _ := hd
  have HB : Hid (UpdP (BF Y X Q) w W) := UpdP.of_below hbW
  have HX : Hid _ := hx
  obtain ⟨⟨g0, g1, g2, g3⟩, g4, g5, g6⟩ := deC hx
  dsimp only at g0 g1 g2 g3 g4 g5 g6
  clear hbW hx hd hlk h hl ht
  dsimp only [deRow] at hW ⊢
  go_enter Try.func31, Try.ntmps31
  go_wp2_with fail
  rw [← hW]
  clear hW
  generalize w.heap.size = D at *
  refine wp_region_held_drew (S := fun w' => w'.cell? ⟨D, 1, none⟩ = some (.int .i64 en) ∧ w'.cell? ⟨D, 2, none⟩ = some (.int .i64 sl) ∧ w'.cell? ⟨D, 4, none⟩ = some (.int .i64 fi) ∧ w'.cell? ⟨D, 5, none⟩ = some (.int .i64 nn) ∧ w'.cell? ⟨D, 6, none⟩ = some (.int .u64 vv)) (by kernel_rfl) ⟨g1, g2, g4, g5, g6⟩ (fun hHeld => ?_)
  refine wpAnyH_take (i := 0) (v := ?_) rfl (by kernel_rfl) (by kernel_rfl) (by kernel_rfl) (fun _ _ _ h => h) (Or.inl ⟨by kernel_rfl, ?_⟩) (by assumption) ?_
  rotate_left
  · (intro w hSw; (try dsimp only at hSw); go_simp) <;> with_reducible rfl
  (try simp only [Act.put, List.getElem_toArray, List.getElem_cons_zero, List.setIfInBounds_toArray, List.set_cons_zero, List.set_cons_succ])
  refine wpAnyH_take (i := 1) (v := ?_) rfl (by kernel_rfl) (by kernel_rfl) (by kernel_rfl) (fun _ _ _ h => h) (Or.inl ⟨by kernel_rfl, ?_⟩) (by assumption) ?_
  rotate_left
  · (intro w hSw; (try dsimp only at hSw); go_simp) <;> with_reducible rfl
  (try simp only [Act.put, List.getElem_toArray, List.getElem_cons_zero, List.getElem_cons_succ, List.setIfInBounds_toArray, List.set_cons_zero, List.set_cons_succ])
  refine wpAnyH_take (i := 2) (v := ?_) rfl (by kernel_rfl) (by kernel_rfl) (by kernel_rfl) (fun _ _ _ h => h) (Or.inl ⟨by kernel_rfl, ?_⟩) (by assumption) ?_
  rotate_left
  · (intro w hSw; (try dsimp only at hSw); go_simp) <;> with_reducible rfl
  (try simp only [Act.put, List.getElem_toArray, List.getElem_cons_zero, List.getElem_cons_succ, List.setIfInBounds_toArray, List.set_cons_zero, List.set_cons_succ])
  refine wpAnyH_take (i := 3) (v := ?_) rfl (by kernel_rfl) (by kernel_rfl) (by kernel_rfl) (fun _ _ _ h => h) (Or.inl ⟨by kernel_rfl, ?_⟩) (by assumption) ?_
  rotate_left
  · (intro w hSw; (try dsimp only at hSw); go_simp) <;> with_reducible rfl
  (try simp only [Act.put, List.getElem_toArray, List.getElem_cons_zero, List.getElem_cons_succ, List.setIfInBounds_toArray, List.set_cons_zero, List.set_cons_succ])
  refine wpAnyH_take (i := 4) (v := ?_) rfl (by kernel_rfl) (by kernel_rfl) (by kernel_rfl) (fun _ _ _ h => h) (Or.inl ⟨by kernel_rfl, ?_⟩) (by assumption) ?_
  rotate_left
  · (intro w hSw; (try dsimp only at hSw); go_simp) <;> with_reducible rfl
  (try simp only [Act.put, List.getElem_toArray, List.getElem_cons_zero, List.getElem_cons_succ, List.setIfInBounds_toArray, List.set_cons_zero, List.set_cons_succ])
  refine wpAnyH_take (i := 5) (v := ?_) rfl (by kernel_rfl) (by kernel_rfl) (by kernel_rfl) (fun _ _ _ h => h) (Or.inl ⟨by kernel_rfl, ?_⟩) (by assumption) ?_
  rotate_left
  · (intro w hSw; (try dsimp only at hSw); go_simp) <;> with_reducible rfl
  (try simp only [Act.put, List.getElem_toArray, List.getElem_cons_zero, List.getElem_cons_succ, List.setIfInBounds_toArray, List.set_cons_zero, List.set_cons_succ])
  refine wpAnyH_take (i := 6) (v := ?_) rfl (by kernel_rfl) (by kernel_rfl) (by kernel_rfl) (fun _ _ _ h => h) (Or.inl ⟨by kernel_rfl, ?_⟩) (by assumption) ?_
  rotate_left
  · (intro w hSw; (try dsimp only at hSw); go_simp) <;> with_reducible rfl
  (try simp only [Act.put, List.getElem_toArray, List.getElem_cons_zero, List.getElem_cons_succ, List.setIfInBounds_toArray, List.set_cons_zero, List.set_cons_succ])
  refine wpAnyH_take (i := 7) (v := ?_) rfl (by kernel_rfl) (by kernel_rfl) (by kernel_rfl) (fun _ _ _ h => h) (Or.inl ⟨by kernel_rfl, ?_⟩) (by assumption) ?_
  rotate_left
  · (intro w hSw; (try dsimp only at hSw); go_simp) <;> with_reducible rfl
  (try simp only [Act.put, List.getElem_toArray, List.getElem_cons_zero, List.getElem_cons_succ, List.setIfInBounds_toArray, List.set_cons_zero, List.set_cons_succ])
  refine wpAnyH_take (i := 8) (v := ?_) rfl (by kernel_rfl) (by kernel_rfl) (by kernel_rfl) (fun _ _ _ h => h) (Or.inl ⟨by kernel_rfl, ?_⟩) (by assumption) ?_
  rotate_left
  · (intro w hSw; (try dsimp only at hSw); go_simp) <;> with_reducible rfl
  (try simp only [Act.put, List.getElem_toArray, List.getElem_cons_zero, List.getElem_cons_succ, List.setIfInBounds_toArray, List.set_cons_zero, List.set_cons_succ])
  refine wpAnyH_take (i := 9) (v := ?_) rfl (by kernel_rfl) (by kernel_rfl) (by kernel_rfl) (fun _ _ _ h => h) (Or.inl ⟨by kernel_rfl, ?_⟩) (by assumption) ?_
  rotate_left
  · (intro w hSw; (try dsimp only at hSw); go_simp) <;> with_reducible rfl
  (try simp only [Act.put, List.getElem_toArray, List.getElem_cons_zero, List.getElem_cons_succ, List.setIfInBounds_toArray, List.set_cons_zero, List.set_cons_succ])
  refine wpAnyH_take (i := 10) (v := ?_) rfl (by kernel_rfl) (by kernel_rfl) (by kernel_rfl) (fun _ _ _ h => h) (Or.inl ⟨by kernel_rfl, ?_⟩) (by assumption) ?_
  rotate_left
  · (intro w hSw; (try dsimp only at hSw); go_simp) <;> with_reducible rfl
  (try simp only [Act.put, List.getElem_toArray, List.getElem_cons_zero, List.getElem_cons_succ, List.setIfInBounds_toArray, List.set_cons_zero, List.set_cons_succ])
  refine wpAnyH_take (i := 13) (v := ?_) rfl (by kernel_rfl) (by kernel_rfl) (by kernel_rfl) (fun _ _ _ h => h) (Or.inl ⟨by kernel_rfl, ?_⟩) (by assumption) ?_
  rotate_left
  · (intro w hSw; (try dsimp only at hSw); go_simp) <;> with_reducible rfl
  (try simp only [Act.put, List.getElem_toArray, List.getElem_cons_zero, List.getElem_cons_succ, List.setIfInBounds_toArray, List.set_cons_zero, List.set_cons_succ])
  refine wpAnyH_take (i := 14) (v := ?_) rfl (by kernel_rfl) (by kernel_rfl) (by kernel_rfl) (fun _ _ _ h => h) (Or.inl ⟨by kernel_rfl, ?_⟩) (by assumption) ?_
  rotate_left
  · (intro w hSw; (try dsimp only at hSw); go_simp) <;> with_reducible rfl
  (try simp only [Act.put, List.getElem_toArray, List.getElem_cons_zero, List.getElem_cons_succ, List.setIfInBounds_toArray, List.set_cons_zero, List.set_cons_succ])
  refine wpAnyH_take (i := 15) (v := ?_) rfl (by kernel_rfl) (by kernel_rfl) (by kernel_rfl) (fun _ _ _ h => h) (Or.inl ⟨by kernel_rfl, ?_⟩) (by assumption) ?_
  rotate_left
  · (intro w hSw; (try dsimp only at hSw); go_simp) <;> with_reducible rfl
  (try simp only [Act.put, List.getElem_toArray, List.getElem_cons_zero, List.getElem_cons_succ, List.setIfInBounds_toArray, List.set_cons_zero, List.set_cons_succ])
  refine wpAnyH_take (i := 16) (v := ?_) rfl (by kernel_rfl) (by kernel_rfl) (by kernel_rfl) (fun _ _ _ h => h) (Or.inl ⟨by kernel_rfl, ?_⟩) (by assumption) ?_
  rotate_left
  · (intro w hSw; (try dsimp only at hSw); go_simp) <;> with_reducible rfl
  (try simp only [Act.put, List.getElem_toArray, List.getElem_cons_zero, List.getElem_cons_succ, List.setIfInBounds_toArray, List.set_cons_zero, List.set_cons_succ])
  refine wpAnyH_take (i := 17) (v := ?_) rfl (by kernel_rfl) (by kernel_rfl) (by kernel_rfl) (fun _ _ _ h => h) (Or.inl ⟨by kernel_rfl, ?_⟩) (by assumption) ?_
  rotate_left
  · (intro w hSw; (try dsimp only at hSw); go_simp) <;> with_reducible rfl
  (try simp only [Act.put, List.getElem_toArray, List.getElem_cons_zero, List.getElem_cons_succ, List.setIfInBounds_toArray, List.set_cons_zero, List.set_cons_succ])
  refine wpAnyH_take (i := 18) (v := ?_) rfl (by kernel_rfl) (by kernel_rfl) (by kernel_rfl) (fun _ _ _ h => h) (Or.inl ⟨by kernel_rfl, ?_⟩) (by assumption) ?_
  rotate_left
  · (intro w hSw; (try dsimp only at hSw); go_simp) <;> with_reducible rfl
  (try simp only [Act.put, List.getElem_toArray, List.getElem_cons_zero, List.getElem_cons_succ, List.setIfInBounds_toArray, List.set_cons_zero, List.set_cons_succ])
  refine wpAnyH_take (i := 19) (v := ?_) rfl (by kernel_rfl) (by kernel_rfl) (by kernel_rfl) (fun _ _ _ h => h) (Or.inl ⟨by kernel_rfl, ?_⟩) (by assumption) ?_
  rotate_left
  · (intro w hSw; (try dsimp only at hSw); go_simp) <;> with_reducible rfl
  (try simp only [Act.put, List.getElem_toArray, List.getElem_cons_zero, List.getElem_cons_succ, List.setIfInBounds_toArray, List.set_cons_zero, List.set_cons_succ])
  refine wpAnyH_take (i := 20) (v := ?_) rfl (by kernel_rfl) (by kernel_rfl) (by kernel_rfl) (fun _ _ _ h => h) (Or.inl ⟨by kernel_rfl, ?_⟩) (by assumption) ?_
  rotate_left
  · (intro w hSw; (try dsimp only at hSw); go_simp) <;> with_reducible rfl
  (try simp only [Act.put, List.getElem_toArray, List.getElem_cons_zero, List.getElem_cons_succ, List.setIfInBounds_toArray, List.set_cons_zero, List.set_cons_succ])
  refine wpAnyH_take (i := 21) (v := ?_) rfl (by kernel_rfl) (by kernel_rfl) (by kernel_rfl) (fun _ _ _ h => h) (Or.inl ⟨by kernel_rfl, ?_⟩) (by assumption) ?_
  rotate_left
  · (intro w hSw; (try dsimp only at hSw); go_simp) <;> with_reducible rfl
  (try simp only [Act.put, List.getElem_toArray, List.getElem_cons_zero, List.getElem_cons_succ, List.setIfInBounds_toArray, List.set_cons_zero, List.set_cons_succ])
  refine wpAnyH_take (i := 22) (v := ?_) rfl (by kernel_rfl) (by kernel_rfl) (by kernel_rfl) (fun _ _ _ h => h) (Or.inl ⟨by kernel_rfl, ?_⟩) (by assumption) ?_
  rotate_left
  · (intro w hSw; (try dsimp only at hSw); go_simp) <;> with_reducible rfl
  (try simp only [Act.put, List.getElem_toArray, List.getElem_cons_zero, List.getElem_cons_succ, List.setIfInBounds_toArray, List.set_cons_zero, List.set_cons_succ])
  refine wpAnyH_take (i := 23) (v := ?_) rfl (by kernel_rfl) (by kernel_rfl) (by kernel_rfl) (fun _ _ _ h => h) (Or.inl ⟨by kernel_rfl, ?_⟩) (by assumption) ?_
  rotate_left
  · (intro w hSw; (try dsimp only at hSw); go_simp) <;> with_reducible rfl
  (try simp only [Act.put, List.getElem_toArray, List.getElem_cons_zero, List.getElem_cons_succ, List.setIfInBounds_toArray, List.set_cons_zero, List.set_cons_succ])
  refine wpAnyH_ready (rs := [11]) (by kernel_rfl) (by simp) ?_
  refine AllReadyH.cons rfl (fun K hK => ?_) AllReadyH.nil
  go_simp
  refine (Di.block_row nn vv W.drew).mono ?_
  rintro x w1 ⟨u1, rfl, hr1, hb1⟩
  have hB1 : Below W.heap.size W w1 := Below.trans (b := W.drew) ⟨rfl, rfl, rfl, Nat.le_refl _, fun _ _ => rfl⟩ hb1
  have hD1 := HD.out.below hB1
  have hx1 := de_keep (P := fun _ => False) (UpdP.of_below hB1) HX.out (fun e => e)
  obtain ⟨⟨-, k1, k2, -⟩, k4, k5, k6⟩ := deC hx1
  dsimp only at k1 k2 k4 k5 k6
  have HBk : Hid (∀ W : World, Calls Try.prog 29 #[.int .i64 nn, .int .u64 vv] W fun e w' => ∃ u, e = .returned u ∧ URow W.heap.size w' u (Di.blk vv (Di.cnt nn)) ∧ Below W.heap.size W w') := fun W => Di.block_row nn vv W
  generalize Di.blk vv (Di.cnt nn) = ws at *
  have hop := xput_at hD1.ker en sl fi hfi hr1
  have HD1 : Hid _ := hD1
  have HX1 : Hid _ := hx1
  have HU1 : Hid (UpdP (BF Y X Q) w w1) := HB.out.trans (UpdP.of_below hB1)
  clear hr1 hb1 hB1 hD1 hx1
  refine hK.out _ _ ⟨k1, k2, k4, k5, k6⟩ (fun hHeld => ?_)
  clear hK K
  (try simp only [Act.put, List.getElem_toArray, List.getElem_cons_zero, List.getElem_cons_succ, List.setIfInBounds_toArray, List.set_cons_zero, List.set_cons_succ])
  refine wpAnyH_ready (rs := [12]) (by kernel_rfl) (by simp) ?_
  refine AllReadyH.cons rfl (fun K hK => ?_) AllReadyH.nil
  go_simp
  refine hop.mono ?_
  rintro x w2 ⟨rfl, hK2, hu2⟩
  have hR2 := HD1.out.other hu2
  have hx2 := de_keep hu2 HX1.out a1
  obtain ⟨⟨-, k1, k2, -⟩, k4, k5, k6⟩ := deC hx2
  dsimp only at k1 k2 k4 k5 k6
  have HK2 : Hid _ := hK2
  have HR2 : Hid _ := hR2
  have HX2 : Hid _ := hx2
  have HU2 : Hid (UpdP (BF Y X Q) w w2) := HU1.out.trans (bfK hu2)
  clear hK2 hR2 hx2 hu2 hop
  refine hK.out _ _ ⟨k1, k2, k4, k5, k6⟩ (fun hHeld => ?_)
  clear hK K
  (try simp only [Act.put, List.getElem_toArray, List.getElem_cons_zero, List.getElem_cons_succ, List.setIfInBounds_toArray, List.set_cons_zero, List.set_cons_succ])
  refine wpAnyH_ready (rs := [24]) (by kernel_rfl) (by simp) ?_
  refine AllReadyH.cons rfl (fun K hK => ?_) AllReadyH.nil
  go_simp
  refine (HBk.out w2).mono ?_
  rintro x w3 ⟨u3, rfl, hr3, hb3⟩
  have hR3 := HR2.out.below hb3
  have hK3 := HK2.out.below hb3
  have hx3 := de_keep (P := fun _ => False) (UpdP.of_below hb3) HX2.out (fun e => e)
  obtain ⟨⟨-, k1, k2, -⟩, k4, k5, k6⟩ := deC hx3
  dsimp only at k1 k2 k4 k5 k6
  have hrf := rxput_at hR3 HLk.out en sl fi hfi hr3
  have HK3 : Hid _ := hK3
  have HR3 : Hid _ := hR3
  have HX3 : Hid _ := hx3
  have HU3 : Hid (UpdP (BF Y X Q) w w3) := HU2.out.trans (UpdP.of_below hb3)
  clear hK3 hR3 hx3 hb3 hr3
  refine hK.out _ _ ⟨k1, k2, k4, k5, k6⟩ (fun hHeld => ?_)
  clear hK K
  (try simp only [Act.put, List.getElem_toArray, List.getElem_cons_zero, List.getElem_cons_succ, List.setIfInBounds_toArray, List.set_cons_zero, List.set_cons_succ])
  refine wpAnyH_ready (rs := [25]) (by kernel_rfl) (by simp) ?_
  refine AllReadyH.cons rfl (fun K hK => ?_) AllReadyH.nil
  go_simp
  refine hrf.mono ?_
  rintro x w4 ⟨rfl, hR4, hu4⟩
  have hx4 := de_keep hu4 HX3.out a2
  obtain ⟨⟨-, k1, k2, -⟩, k4, k5, k6⟩ := deC hx4
  dsimp only at k1 k2 k4 k5 k6
  have HF : Hid (DoneS w w4 K0 Y X Q n m en vs l T L last) := Gw.done hn (keepR HK3.out HR3.out hu4) (hR4.gw HD.out.rel HD.out.pos) (by omega) (by omega) (HU3.out.trans (bfR hu4)) (Step.put HD.out.ker.inv sl fi ws)
  clear hR4 hx4 hu4 hrf
  refine hK.out _ _ ⟨k1, k2, k4, k5, k6⟩ (fun hHeld => ?_)
  clear hK K
  (try simp only [Act.put, List.getElem_toArray, List.getElem_cons_zero, List.getElem_cons_succ, List.setIfInBounds_toArray, List.set_cons_zero, List.set_cons_succ])
  refine wpAnyH_take (i := 26) (v := ?_) rfl (by kernel_rfl) (by kernel_rfl) (by kernel_rfl) (fun _ _ _ h => h) (Or.inl ⟨by kernel_rfl, ?_⟩) (by assumption) ?_
  rotate_left
  · (intro w hSw; (try dsimp only at hSw); go_simp) <;> with_reducible rfl
  (try simp only [Act.put, List.getElem_toArray, List.getElem_cons_zero, List.getElem_cons_succ, List.setIfInBounds_toArray, List.set_cons_zero, List.set_cons_succ])
  refine wpAnyH_take (i := 27) (v := ?_) rfl (by kernel_rfl) (by kernel_rfl) (by kernel_rfl) (fun _ _ _ h => h) (Or.inl ⟨by kernel_rfl, ?_⟩) (by assumption) ?_
  rotate_left
  · (intro w hSw; (try dsimp only at hSw); go_simp) <;> with_reducible rfl
  (try simp only [Act.put, List.getElem_toArray, List.getElem_cons_zero, List.getElem_cons_succ, List.setIfInBounds_toArray, List.set_cons_zero, List.set_cons_succ])
  refine wpAnyH_done (by kernel_rfl) ?_ _
  go_wp2
  go_ret
  exact ⟨_, rfl, HF.out⟩

set_option maxRecDepth 100000 in
set_option maxHeartbeats 4000000 in
theorem do_5 (h : Duo w K0 Y X Q n m vs l T L last) (hl : L.length ≤ 800) (ht : last ≤ 800) (hm : m ≤ 800000) (d : De) (hfit : d.Fit) (hkd : d.kind = 5) :
    Calls Try.prog 31 #[ptr K0, ptr X, .agg (deRow d)] w fun x w' => ∃ b, x = .returned (.bool b) ∧ DoneS w w' K0 Y X Q n m d.env vs l T L last := by
  obtain ⟨kd, en, sl, ds, fi, nn, vv⟩ := d
  obtain ⟨-, he, hs, hd', hfi, hnn⟩ := hfit
  dsimp only at hkd he hs hd' hfi hnn
  subst hkd
  obtain ⟨W, hW⟩ : ∃ W, W = w.alloc (.cells (deRow ⟨5, en, sl, ds, fi, nn, vv⟩) 62) := ⟨_, rfl⟩
  have hbW : Below w.heap.size w W := by rw [hW]; exact below_alloc _ _
  have hx : W.heap[w.heap.size]? = some (.cells (deRow ⟨5, en, sl, ds, fi, nn, vv⟩) 62) := by rw [hW]; exact heap_alloc_new _ _
  have hd := h.below hbW
  have hlk := hd.lx hl ht
  have hn := h.n2
  have hn1 := h.ker.n1
  have HLk : Hid _ := hlk
  obtain ⟨a1, a2⟩ := hd.noB hx
  have HD : Hid _ := hd
  have HB : Hid (UpdP (BF Y X Q) w W) := UpdP.of_below hbW
  have HX : Hid _ := hx
  have hop := xsync_at hd.ker (by omega)
  clear hbW hx hd hlk h hl ht
  dsimp only [deRow] at hW ⊢
  go_enter Try.func31, Try.ntmps31
  go_wp2_with fail
  rw [← hW]
  clear hW
  refine hop.mono ?_
  rintro x w1 ⟨rfl, hK1, hu1⟩
  have hR1 := HD.out.other hu1
  have hrf := rxsync_at hR1 hn (by omega)
  have HK1 : Hid _ := hK1
  have HR1 : Hid _ := hR1
  have HU1 : Hid (UpdP (BF Y X Q) w w1) := HB.out.trans (bfK hu1)
  clear hK1 hR1 hu1 hop
  go_wp2_with fail
  refine hrf.mono ?_
  rintro x w2 ⟨rfl, hR2, hu2⟩
  have HF : Hid (DoneS w w2 K0 Y X Q n m en vs l T L last) := Gw.done hn (keepR HK1.out HR1.out hu2) (hR2.gw HD.out.rel HD.out.pos) (by omega) (by omega) (HU1.out.trans (bfR hu2)) (Or.inr ⟨rfl, Or.inr (Or.inr ⟨rfl, rfl⟩)⟩)
  clear hR2 hu2 hrf
  go_wp2
  go_ret
  exact ⟨_, rfl, HF.out⟩

set_option maxRecDepth 100000 in
set_option maxHeartbeats 4000000 in
theorem do_8 (h : Duo w K0 Y X Q n m vs l T L last) (hl : L.length ≤ 800) (ht : last ≤ 800) (hm : m ≤ 800000) (d : De) (hfit : d.Fit) (hkd : d.kind < 0 ∨ 7 < d.kind) :
    Calls Try.prog 31 #[ptr K0, ptr X, .agg (deRow d)] w fun x w' => ∃ b, x = .returned (.bool b) ∧ DoneS w w' K0 Y X Q n m d.env vs l T L last := by
  obtain ⟨kd, en, sl, ds, fi, nn, vv⟩ := d
  obtain ⟨-, he, hs, hd', hfi, hnn⟩ := hfit
  dsimp only at hkd he hs hd' hfi hnn
  have i0 : (kd == 0) = false := beq_eq_false_iff_ne.2 (by omega)
  have i1 : (kd == 1) = false := beq_eq_false_iff_ne.2 (by omega)
  have i2 : (kd == 2) = false := beq_eq_false_iff_ne.2 (by omega)
  have i3 : (kd == 3) = false := beq_eq_false_iff_ne.2 (by omega)
  have i4 : (kd == 4) = false := beq_eq_false_iff_ne.2 (by omega)
  have i5 : (kd == 5) = false := beq_eq_false_iff_ne.2 (by omega)
  have i6 : (kd == 6) = false := beq_eq_false_iff_ne.2 (by omega)
  have i7 : (kd == 7) = false := beq_eq_false_iff_ne.2 (by omega)
  clear hkd
  obtain ⟨W, hW⟩ : ∃ W, W = w.alloc (.cells (deRow ⟨kd, en, sl, ds, fi, nn, vv⟩) 62) := ⟨_, rfl⟩
  have hbW : Below w.heap.size w W := by rw [hW]; exact below_alloc _ _
  have hx : W.heap[w.heap.size]? = some (.cells (deRow ⟨kd, en, sl, ds, fi, nn, vv⟩) 62) := by rw [hW]; exact heap_alloc_new _ _
  have hd := h.below hbW
  have hlk := hd.lx hl ht
  have hn := h.n2
  have hn1 := h.ker.n1
  have HLk : Hid _ := hlk
  obtain ⟨a1, a2⟩ := hd.noB hx
  have HD : Hid _ := hd
  have HB : Hid (UpdP (BF Y X Q) w W) := UpdP.of_below hbW
  have HX : Hid _ := hx
  have hop := xgone_at hd.ker en
  clear hbW hx hd hlk h hl ht
  dsimp only [deRow] at hW ⊢
  go_enter Try.func31, Try.ntmps31
  go_wp2_with fail
  rw [← hW]
  clear hW
  refine hop.mono ?_
  rintro x w1 ⟨rfl, hK1, hu1⟩
  have hR1 := HD.out.other hu1
  have hx1 := de_keep hu1 HX.out a1
  have hrf := rxgone_at (hR1.below (w' := w1.drew) ⟨rfl, rfl, rfl, Nat.le_refl _, fun _ _ => rfl⟩) HLk.out en
  obtain ⟨⟨g0, g1, g2, g3⟩, g4, g5, g6⟩ := deC hx1
  dsimp only at g0 g1 g2 g3 g4 g5 g6
  have c1 := hR1.x1
  have HK1 : Hid _ := hK1
  have HR1 : Hid _ := hR1
  have HX1 : Hid _ := hx1
  have HU1 : Hid (UpdP (BF Y X Q) w w1) := HB.out.trans (bfK hu1)
  clear hK1 hR1 hx1 hu1 hop
  go_wp2_with fail
  refine wp_region_held_drew (S := fun w' => w'.cell? ⟨X, 1, none⟩ = some (ptr Q.c) ∧ w'.cell? ⟨w.heap.size, 1, none⟩ = some (.int .i64 en)) (by kernel_rfl) ⟨c1, g1⟩ (fun hHeld => ?_)
  refine wpAnyH_take (i := 0) (v := ?_) rfl (by kernel_rfl) (by kernel_rfl) (by kernel_rfl) (fun _ _ _ h => h) (Or.inl ⟨by kernel_rfl, ?_⟩) (by assumption) ?_
  rotate_left
  · (intro w hSw; (try dsimp only at hSw); go_simp) <;> with_reducible rfl
  (try simp only [Act.put, List.getElem_toArray, List.getElem_cons_zero, List.setIfInBounds_toArray, List.set_cons_zero, List.set_cons_succ])
  refine wpAnyH_take (i := 1) (v := ?_) rfl (by kernel_rfl) (by kernel_rfl) (by kernel_rfl) (fun _ _ _ h => h) (Or.inl ⟨by kernel_rfl, ?_⟩) (by assumption) ?_
  rotate_left
  · (intro w hSw; (try dsimp only at hSw); go_simp) <;> with_reducible rfl
  (try simp only [Act.put, List.getElem_toArray, List.getElem_cons_zero, List.getElem_cons_succ, List.setIfInBounds_toArray, List.set_cons_zero, List.set_cons_succ])
  refine wpAnyH_take (i := 2) (v := ?_) rfl (by kernel_rfl) (by kernel_rfl) (by kernel_rfl) (fun _ _ _ h => h) (Or.inl ⟨by kernel_rfl, ?_⟩) (by assumption) ?_
  rotate_left
  · (intro w hSw; (try dsimp only at hSw); go_simp) <;> with_reducible rfl
  (try simp only [Act.put, List.getElem_toArray, List.getElem_cons_zero, List.getElem_cons_succ, List.setIfInBounds_toArray, List.set_cons_zero, List.set_cons_succ])
  refine wpAnyH_take (i := 3) (v := ?_) rfl (by kernel_rfl) (by kernel_rfl) (by kernel_rfl) (fun _ _ _ h => h) (Or.inl ⟨by kernel_rfl, ?_⟩) (by assumption) ?_
  rotate_left
  · (intro w hSw; (try dsimp only at hSw); go_simp) <;> with_reducible rfl
  (try simp only [Act.put, List.getElem_toArray, List.getElem_cons_zero, List.getElem_cons_succ, List.setIfInBounds_toArray, List.set_cons_zero, List.set_cons_succ])
  refine wpAnyH_take (i := 4) (v := ?_) rfl (by kernel_rfl) (by kernel_rfl) (by kernel_rfl) (fun _ _ _ h => h) (Or.inl ⟨by kernel_rfl, ?_⟩) (by assumption) ?_
  rotate_left
  · (intro w hSw; (try dsimp only at hSw); go_simp) <;> with_reducible rfl
  (try simp only [Act.put, List.getElem_toArray, List.getElem_cons_zero, List.getElem_cons_succ, List.setIfInBounds_toArray, List.set_cons_zero, List.set_cons_succ])
  refine wpAnyH_take (i := 5) (v := ?_) rfl (by kernel_rfl) (by kernel_rfl) (by kernel_rfl) (fun _ _ _ h => h) (Or.inl ⟨by kernel_rfl, ?_⟩) (by assumption) ?_
  rotate_left
  · (intro w hSw; (try dsimp only at hSw); go_simp) <;> with_reducible rfl
  (try simp only [Act.put, List.getElem_toArray, List.getElem_cons_zero, List.getElem_cons_succ, List.setIfInBounds_toArray, List.set_cons_zero, List.set_cons_succ])
  refine wpAnyH_ready (rs := [6]) (by kernel_rfl) (by simp) ?_
  refine AllReadyH.cons rfl (fun K hK => ?_) AllReadyH.nil
  go_simp
  refine hrf.mono ?_
  rintro x w2 ⟨rfl, hG2, hu2⟩
  have hu2' : UpdP (RF X Q) w1 w2 := UpdP.trans (b := w1.drew) ⟨rfl, rfl, rfl, Nat.le_refl _, fun _ _ _ => rfl⟩ hu2
  have hx2 := de_keep hu2' HX1.out a2
  obtain ⟨⟨-, k1, -, -⟩, -, -, -⟩ := deC hx2
  dsimp only at k1
  have c2 : w2.cell? ⟨X, 1, none⟩ = some (ptr Q.c) := by
    obtain ⟨L', last', hR', _⟩ := hG2
    exact hR'.x1
  have HF : Hid (DoneS w w2 K0 Y X Q n m en vs l T L last) := hG2.done hn (keepR HK1.out HR1.out hu2') (by omega) (by omega) (HU1.out.trans (bfR hu2')) (Or.inl ⟨rfl, rfl, Or.inr (Or.inr (Or.inr (Or.inl rfl)))⟩)
  clear hG2 hu2 hu2' hrf hx2
  refine hK.out _ _ ⟨c2, k1⟩ (fun hHeld => ?_)
  clear hK K
  (try simp only [Act.put, List.getElem_toArray, List.getElem_cons_zero, List.getElem_cons_succ, List.setIfInBounds_toArray, List.set_cons_zero, List.set_cons_succ])
  refine wpAnyH_done (by kernel_rfl) ?_ _
  go_wp2
  go_ret
  exact ⟨_, rfl, HF.out⟩

end
end Go.Proofs.Ytfnafjddajgahaa
