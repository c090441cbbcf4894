/- Package procs: orphan, bury, Exit. -/
import Derived.Test.YtfcpcncafopobaaPcB
namespace Go.Proofs.Ytfcpcncafopobaa
open Go.RowKit Go.Maps
set_option linter.unusedVariables false

theorem setCell_eq {w : World} {g i : Nat} {cs : Array Value} {t : TypeId} {v : Value} (h : w.heap[g]? = some (.cells cs t)) : (w.setCell ⟨g, i, none⟩ v).heap[g]? = some (.cells (cs.setIfInBounds i v) t) := by
  rw [setCell_eq_setRow w g i _ _ _ _ h, setRow_heap w g _ _ _ _ h]
theorem pf_dom {S T : St} {c : Int → Nat} (h : ∀ k, (T k).isSome = (S k).isSome) : pf T c = pf S c := by
  funext k
  have := h k
  unfold pf
  cases e : S k <;> cases e2 : T k <;> rw [e, e2] at this <;> first | rfl | cases this
theorem PrIs.set {w : World} {B b : Nat} {mo : Option Nat} {c : Int → Nat} {S : St} (h : PrIs w B b mo c S) {k : Int} {p p' : Pr} (hk : S k = some p) {i : Nat} {v : Value} (hr : (prow p).setIfInBounds i v = prow p') :
    PrIs (w.setCell ⟨c k, i, none⟩ v) B b mo c (stPut S k p') ∧ Tch B w (w.setCell ⟨c k, i, none⟩ v) := by
  have hu : Upd (c k) w (w.setCell ⟨c k, i, none⟩ v) := Upd.setCell _ _ _ _
  have hs : ∀ j, (stPut S k p' j).isSome = (S j).isSome := by
    intro j
    by_cases e : j = k
    · subst e; rw [stPut_same, hk]; rfl
    · rw [stPut_other _ e]
  refine ⟨⟨(hu.block b h.lt (fun e => h.cb hk e.symm)).trans h.head, ?_, fun j q hj => ?_, fun i j hi hj => h.inj i j (by rw [← hs i]; exact hi) (by rw [← hs j]; exact hj), ?_, h.bB, h.mB, fun j q hj => ?_⟩, Tch.of_upd hu (h.cB k p hk) (h.pbc hk)⟩
  · rw [pf_dom hs]
    rcases h.map with ⟨rfl, hf⟩ | ⟨m, rfl, hm⟩
    · exact Or.inl ⟨rfl, hf⟩
    · exact Or.inr ⟨m, rfl, hm.of_block (hu.block m hm.lt (fun e => h.cm hk m rfl e.symm))⟩
  · by_cases e : j = k
    · subst e
      rw [stPut_same] at hj
      cases hj
      rw [setCell_eq (h.pr j p hk), hr]
    · rw [stPut_other _ e] at hj
      rw [hu.block _ (h.clt hj) (fun e2 => e (h.inj j k (by rw [hj]; rfl) (by rw [hk]; rfl) e2))]
      exact h.pr j q hj
  · exact h.dom.put p' (h.dom k p hk).1 (h.dom k p hk).2
  · by_cases e : j = k
    · subst e; exact h.cB j p hk
    · rw [stPut_other _ e] at hj; exact h.cB j q hj
/-- Where the loop has come to: those still to come are as they were. -/
def mixO (S : St) (pid : Int) (left : Int → Bool) : St := fun k => (S k).map fun p => if left k = true then p else orP pid p
theorem mixO_dom (S : St) (pid : Int) (left : Int → Bool) (k : Int) : (mixO S pid left k).isSome = (S k).isSome := by unfold mixO; cases S k <;> rfl
theorem mixO_end {S : St} {pid : Int} {left : Int → Bool} (h : ∀ k, left k = false) : mixO S pid left = orph S pid := by
  funext k
  unfold mixO orph
  cases S k with
  | none => rfl
  | some p => show some (if left k = true then p else orP pid p) = some (orP pid p); rw [h k, if_neg (by simp)]
theorem mixO_start {S : St} {pid : Int} {c : Int → Nat} : mixO S pid (fun a => (pf S c a).isSome) = S := by
  funext k
  show (S k).map (fun p => if (pf S c k).isSome = true then p else orP pid p) = S k
  rw [pf_some]
  cases S k with
  | none => rfl
  | some p => show some (if true = true then p else orP pid p) = some p; rw [if_pos rfl]
theorem mixO_step {S : St} {pid : Int} {left : Int → Bool} {x : Int} {p : Pr} (hx : S x = some p) : mixO S pid (fun z => left z && z != x) = stPut (mixO S pid left) x (orP pid p) := by
  funext k
  unfold mixO stPut
  dsimp only
  by_cases e : k = x
  · subst e
    rw [if_pos rfl, hx]
    show some (if (left k && k != k) = true then p else orP pid p) = some (orP pid p)
    rw [if_neg (by simp)]
  · rw [if_neg e]
    cases S k with
    | none => rfl
    | some q =>
      show some (if (left k && k != x) = true then q else orP pid q) = some (if left k = true then q else orP pid q)
      rw [bne_iff_ne.2 e, Bool.and_true]
theorem mixO_at {S : St} {pid : Int} {left : Int → Bool} {x : Int} {p : Pr} (hx : S x = some p) (hl : left x = true) : mixO S pid left x = some p := by
  unfold mixO
  rw [hx]
  show some (if left x = true then p else orP pid p) = some p
  rw [if_pos hl]
theorem stPut_again {S : St} {x : Int} {p : Pr} (h : S x = some p) : stPut S x p = S := by
  funext k
  unfold stPut
  by_cases e : k = x
  · rw [if_pos e, e, h]
  · rw [if_neg e]
theorem PrIs.upd {w W : World} {B b r : Nat} {mo : Option Nat} {c : Int → Nat} {S : St} (h : PrIs w B b mo c S) (hu : Upd r w W) (h1 : r ≠ b) (h2 : ∀ m, mo = some m → r ≠ m) (h3 : ∀ k p, S k = some p → r ≠ c k) : PrIs W B b mo c S := by
  refine ⟨(hu.block b h.lt (fun e => h1 e.symm)).trans h.head, ?_, fun k p hk => (hu.block _ (h.clt hk) (fun e => h3 k p hk e.symm)).trans (h.pr k p hk), h.inj, h.dom, h.bB, h.mB, h.cB⟩
  rcases h.map with ⟨rfl, hf⟩ | ⟨m, rfl, hm⟩
  · exact Or.inl ⟨rfl, hf⟩
  · exact Or.inr ⟨m, rfl, hm.of_block (hu.block m hm.lt (fun e => h2 m rfl e.symm))⟩
set_option maxRecDepth 100000 in
set_option maxHeartbeats 4000000 in
theorem orphan_at (B b : Nat) (S : St) (pid : Int) (w : World) (h : PrAt w B b S) :
    Calls Try.prog 33 #[ptr b, .int .i64 pid] w fun e w' => e = .returned (.tuple #[]) ∧ PrAt w' B b (orph S pid) ∧ Tch B w w' := by
  obtain ⟨mo, c, h⟩ := h
  have HH : Hid (PrIs w B b mo c S) := h
  have HM : Hid (MapO w .i64 mo (pf S c)) := h.map
  have c0 := h.cell
  clear h
  go_enter Try.func33, Try.ntmps33
  go_wp2_with (first | (at_range; refine wpList_range_o rfl _ _ _ _ rfl Try.underlying64 .i64 mo (pf S c) rfl HM.out ?_; intro w0 n0 hrg0 hb0 hs0) | go_in)
  go_frame
  have HR0 : Hid (RngO w0 .i64 mo w.heap.size (pf S c) (fun a => (pf S c a).isSome) n0) := hrg0
  have HP0 : Hid (PrIs w0 B b mo c S) := HH.out.below hb0
  have HT0 : Hid (Tch B w w0) := Tch.of_below hb0
  obtain ⟨r, hr⟩ : ∃ r, r = w.heap.size := ⟨_, rfl⟩
  rw [← hr] at HR0 ⊢
  have Hr : Hid (r = w.heap.size) := hr
  clear hrg0 hb0 hs0 c0 hr
  go_loopw [] (fun wr => ∃ (left : Int → Bool) (n : Nat), RngO wr .i64 mo r (pf S c) left n ∧ PrIs wr B b mo c (mixO S pid left) ∧ Tch B w wr) (fun wr => mleft mo r wr)
  case atStart => exact ⟨_, n0, HR0.out, by rw [mixO_start]; exact HP0.out, HT0.out⟩
  case round =>
    clear HR0 HP0 HT0
    obtain ⟨left, n, hrg, hP, hT⟩ := hrel
    have HRg : Hid (RngO wr .i64 mo r (pf S c) left n) := hrg
    have HP : Hid (PrIs wr B b mo c (mixO S pid left)) := hP
    have HT : Hid (Tch B w wr) := hT
    clear hrg hP hT
    go_wp2_with (first | (at_next; refine wpList_next_o rfl _ rfl .i64 mo r (pf S c) (fun x => ptr (c x)) pf_ptr left n rfl HRg.out ?_ ?_) | go_in)
    · intro hl0
      have HE : Hid (PrAt wr B b (orph S pid)) := by
        have := HP.out
        rw [mixO_end hl0] at this
        exact ⟨_, _, this⟩
      clear hl0
      go_wp2
      go_end0
      exact ⟨rfl, HE.out, HT.out⟩
    · intro x w1 n1 hlx hdx hrg1 hlt1 hu1 hs1 hen
      have HRg1 : Hid (RngO w1 .i64 mo r (pf S c) (fun z => left z && z != x) n1) := hrg1
      have HLt : Hid (n1 < n) := hlt1
      obtain ⟨p, hp⟩ : ∃ p, S x = some p := by
        unfold pf at hdx
        cases e : S x with
        | none => rw [e] at hdx; cases hdx
        | some p => exact ⟨p, rfl⟩
      have hcr : c x ≠ r := by have := HH.out.clt hp; have := Hr.out; omega
      have HP1 : Hid (PrIs w1 B b mo c (mixO S pid left)) := HP.out.upd hu1 (by have := HH.out.lt; have := Hr.out; omega) (fun m e => by have := HH.out.mlt m e; have := Hr.out; omega) (fun k q hk => by
        obtain ⟨q2, hq2, _⟩ := Option.map_eq_some_iff.1 hk
        have := HH.out.clt hq2; have := Hr.out; omega)
      have HT1 : Hid (Tch B w w1) := HT.out.of_new hu1 (by have := Hr.out; omega)
      have hmx := mixO_at (pid := pid) hp hlx
      obtain ⟨d0, -, -⟩ := HP1.out.cells hmx
      have f0 : w1.frozen? ⟨c x, 0, none⟩ = false := frozen_of_heap (HP1.out.pr x p hmx)
      by_cases hpp : p.par = pid
      · have g0 : (p.par == pid) = true := by simp [hpp]
        have hset := HP1.out.set (p' := orP pid p) hmx (i := 0) (v := .int .i64 0) (by unfold orP; rw [if_pos hpp]; rfl)
        rw [← mixO_step hp] at hset
        have HP2 : Hid (PrIs (w1.setCell ⟨c x, 0, none⟩ (.int .i64 0)) B b mo c (mixO S pid (fun z => left z && z != x))) := hset.1
        have HT2 : Hid (Tch B w (w1.setCell ⟨c x, 0, none⟩ (.int .i64 0))) := HT1.out.trans hset.2
        have HRg2 : Hid (RngO (w1.setCell ⟨c x, 0, none⟩ (.int .i64 0)) .i64 mo r (pf S c) (fun z => left z && z != x) n1) := by
          have hu : Upd (c x) w1 (w1.setCell ⟨c x, 0, none⟩ (.int .i64 0)) := Upd.setCell _ _ _ _
          exact HRg1.out.of_blocks (fun m e => hu.block m (HRg1.out.mlt m e) (fun e2 => HP1.out.cm hmx m e e2.symm)) (hu.block r HRg1.out.lt (fun e => hcr e.symm))
        clear hrg1 hlt1 hu1 hs1 hdx hp hlx hset hmx hpp hcr HP1 HT1 HRg1
        generalize hcx : c x = cx at *
        clear hcx
        go_wp2
        go_roundw
        case rel => exact ⟨_, n1, HRg2.out, HP2.out, HT2.out⟩
        case measure => rw [HRg2.out.left_eq, HRg.out.left_eq]; exact HLt.out
      · have g0 : (p.par == pid) = false := beq_false_of_ne hpp
        have HP2 : Hid (PrIs w1 B b mo c (mixO S pid (fun z => left z && z != x))) := by
          have e : orP pid p = p := by unfold orP; rw [if_neg hpp]
          show PrIs w1 B b mo c (mixO S pid (fun z => left z && z != x))
          rw [mixO_step hp, e, stPut_again hmx]
          exact HP1.out
        clear hrg1 hlt1 hu1 hs1 hdx hp hlx hmx hpp hcr HP1
        generalize hcx : c x = cx at *
        clear hcx
        go_wp2
        go_roundw
        case rel => exact ⟨_, n1, HRg1.out, HP2.out, HT1.out⟩
        case measure => rw [HRg1.out.left_eq, HRg.out.left_eq]; exact HLt.out
theorem PrIs.del' {w W : World} {B b m : Nat} {c : Int → Nat} {S : St} (h : PrIs w B b (some m) c S) {k : Int} (hu : Upd m w W) (hm : MapIs W .i64 m (fdel (pf S c) k)) : PrIs W B b (some m) c (stDel S k) := by
  have hat : ∀ j q, stDel S k j = some q → S j = some q := by
    intro j q hj
    unfold stDel at hj
    split at hj
    · cases hj
    · exact hj
  have hs : ∀ j, (stDel S k j).isSome = true → (S j).isSome = true := by
    intro j hj
    obtain ⟨q, hq⟩ := Option.isSome_iff_exists.1 hj
    rw [hat j q hq]
    rfl
  refine ⟨(hu.block b h.lt (h.bm m rfl)).trans h.head, Or.inr ⟨m, rfl, ?_⟩, fun j q hj => ?_, fun i j hi hj => h.inj i j (hs i hi) (hs j hj), h.dom.del k, h.bB, h.mB, fun j q hj => h.cB j q (hat j q hj)⟩
  · have : pf (stDel S k) c = fdel (pf S c) k := by
      funext x
      unfold pf fdel stDel
      by_cases e : x = k
      · rw [if_pos e, if_pos e]; rfl
      · rw [if_neg e, if_neg e]
    rw [this]; exact hm
  · rw [hu.block _ (h.clt (hat j q hj)) (h.cm (hat j q hj) m rfl)]
    exact h.pr j q (hat j q hj)
def mixB (S : St) (left : Int → Bool) : St := fun k => if left k = true then S k else bur S k
theorem mixB_end {S : St} {left : Int → Bool} (h : ∀ k, left k = false) : mixB S left = bur S := by
  funext k
  unfold mixB
  rw [h k, if_neg (by simp)]
theorem mixB_start {S : St} {c : Int → Nat} : mixB S (fun a => (pf S c a).isSome) = S := by
  funext k
  show (if (pf S c k).isSome = true then S k else bur S k) = S k
  rw [pf_some]
  cases e : S k with
  | none =>
    rw [if_neg (by simp)]
    unfold bur
    rw [e]
    rfl
  | some p => rw [if_pos (show (some p).isSome = true from rfl)]
theorem mixB_at {S : St} {left : Int → Bool} {x : Int} {p : Pr} (hx : S x = some p) (hl : left x = true) : mixB S left x = some p := by
  unfold mixB
  rw [if_pos hl, hx]
theorem mixB_gone {S : St} {left : Int → Bool} {x : Int} {p : Pr} (hx : S x = some p) (hp : p.zom = true ∧ p.par = 0) : mixB S (fun z => left z && z != x) = stDel (mixB S left) x := by
  funext k
  unfold mixB stDel
  dsimp only
  by_cases e : k = x
  · subst e
    rw [if_pos rfl, if_neg (by simp)]
    unfold bur
    rw [hx]
    show buP p = none
    unfold buP
    rw [if_pos hp]
  · rw [if_neg e]
    show (if (left k && k != x) = true then S k else bur S k) = (if left k = true then S k else bur S k)
    rw [bne_iff_ne.2 e, Bool.and_true]
theorem mixB_stays {S : St} {left : Int → Bool} {x : Int} {p : Pr} (hx : S x = some p) (hl : left x = true) (hp : ¬ (p.zom = true ∧ p.par = 0)) : mixB S (fun z => left z && z != x) = mixB S left := by
  funext k
  unfold mixB
  dsimp only
  by_cases e : k = x
  · subst e
    rw [if_neg (by simp), if_pos hl]
    unfold bur
    rw [hx]
    show buP p = some p
    unfold buP
    rw [if_neg hp]
  · show (if (left k && k != x) = true then S k else bur S k) = (if left k = true then S k else bur S k)
    rw [bne_iff_ne.2 e, Bool.and_true]
theorem twice (left : Int → Bool) (x : Int) : (fun z => (fun y => left y && y != x) z && z != x) = fun z => left z && z != x := by
  funext z
  show (left z && z != x && z != x) = _
  rw [Bool.and_assoc, Bool.and_self]
set_option maxRecDepth 100000 in
set_option maxHeartbeats 4000000 in
theorem bury_at (B b : Nat) (S : St) (w : World) (h : PrAt w B b S) :
    Calls Try.prog 34 #[ptr b] w fun e w' => e = .returned (.tuple #[]) ∧ PrAt w' B b (bur S) ∧ Tch B w w' := by
  obtain ⟨mo, c, h⟩ := h
  have HH : Hid (PrIs w B b mo c S) := h
  have HM : Hid (MapO w .i64 mo (pf S c)) := h.map
  have c0 := h.cell
  clear h
  go_enter Try.func34, Try.ntmps34
  go_wp2_with (first | (at_range; refine wpList_range_o rfl _ _ _ _ rfl Try.underlying64 .i64 mo (pf S c) rfl HM.out ?_; intro w0 n0 hrg0 hb0 hs0) | go_in)
  go_frame
  have HR0 : Hid (RngO w0 .i64 mo w.heap.size (pf S c) (fun a => (pf S c a).isSome) n0) := hrg0
  have HP0 : Hid (PrIs w0 B b mo c S) := HH.out.below hb0
  have HT0 : Hid (Tch B w w0) := Tch.of_below hb0
  obtain ⟨r, hr⟩ : ∃ r, r = w.heap.size := ⟨_, rfl⟩
  rw [← hr] at HR0 ⊢
  have Hr : Hid (r = w.heap.size) := hr
  clear hrg0 hb0 hs0 c0 hr
  go_loopw [] (fun wr => ∃ (left : Int → Bool) (n : Nat), RngO wr .i64 mo r (pf (mixB S left) c) left n ∧ PrIs wr B b mo c (mixB S left) ∧ Tch B w wr) (fun wr => mleft mo r wr)
  case atStart => exact ⟨_, n0, by rw [mixB_start]; exact HR0.out, by rw [mixB_start]; exact HP0.out, HT0.out⟩
  case round =>
    clear HR0 HP0 HT0
    obtain ⟨left, n, hrg, hP, hT⟩ := hrel
    have HRg : Hid (RngO wr .i64 mo r (pf (mixB S left) c) left n) := hrg
    have HP : Hid (PrIs wr B b mo c (mixB S left)) := hP
    have HT : Hid (Tch B w wr) := hT
    clear hrg hP hT
    go_wp2_with (first | (at_next; refine wpList_next_o rfl _ rfl .i64 mo r (pf (mixB S left) c) (fun x => ptr (c x)) pf_ptr left n rfl HRg.out ?_ ?_) | go_in)
    · intro hl0
      have HE : Hid (PrAt wr B b (bur S)) := by
        have := HP.out
        rw [mixB_end hl0] at this
        exact ⟨_, _, this⟩
      clear hl0
      go_wp2
      go_end0
      exact ⟨rfl, HE.out, HT.out⟩
    · intro x w1 n1 hlx hdx hrg1 hlt1 hu1 hs1 hen
      have HRg1 : Hid (RngO w1 .i64 mo r (pf (mixB S left) c) (fun z => left z && z != x) n1) := hrg1
      have HLt : Hid (n1 < n) := hlt1
      obtain ⟨p, hp⟩ : ∃ p, S x = some p := by
        unfold pf mixB at hdx
        rw [if_pos hlx] at hdx
        cases e : S x with
        | none => rw [e] at hdx; cases hdx
        | some p => exact ⟨p, rfl⟩
      have hmx := mixB_at hp hlx
      have hbk : ∀ k q, mixB S left k = some q → ∃ q2, S k = some q2 := by
        intro k q hk
        unfold mixB at hk
        split at hk
        · exact ⟨q, hk⟩
        · unfold bur at hk
          obtain ⟨q2, hq2, _⟩ := Option.bind_eq_some_iff.1 hk
          exact ⟨q2, hq2⟩
      have HP1 : Hid (PrIs w1 B b mo c (mixB S left)) := HP.out.upd hu1 (by have := HH.out.lt; have := Hr.out; omega) (fun m e => by have := HH.out.mlt m e; have := Hr.out; omega) (fun k q hk => by
        obtain ⟨q2, hq2⟩ := hbk k q hk
        have := HH.out.clt hq2; have := Hr.out; omega)
      have HT1 : Hid (Tch B w w1) := HT.out.of_new hu1 (by have := Hr.out; omega)
      obtain ⟨d0, d1, -⟩ := HP1.out.cells hmx
      have c1 := HP1.out.cell
      clear hrg1 hlt1 hu1 hs1 hdx hbk
      by_cases hgo : p.zom = true ∧ p.par = 0
      · obtain ⟨m, rfl⟩ : ∃ m, mo = some m := by
          rcases HP1.out.map with ⟨_, e⟩ | ⟨m, e, _⟩
          · have := e x; unfold pf at this; rw [hmx] at this; cases this
          · exact ⟨m, e⟩
        have HI : Hid (RngIs w1 .i64 m r (pf (mixB S left) c) (fun z => left z && z != x) n1) := by
          rcases HRg1.out with ⟨e, _⟩ | ⟨m', e, hm⟩
          · cases e
          · cases e; exact hm
        have HG : Hid (mixB S (fun z => left z && z != x) = stDel (mixB S left) x) := mixB_gone hp hgo
        rw [hgo.1] at d1
        rw [hgo.2] at d0
        clear hp hmx hgo hlx
        generalize hcx : c x = cx at *
        clear hcx
        go_wp2_with (first | (at_delete; refine wpList_drop_o rfl _ _ _ _ _ rfl Try.underlying64 .i64 Try.underlying3 m r _ _ n1 rfl HI.out x rfl ?_; intro w2 n2 hrg2 hle2 hu2 hs2) | go_in)
        rw [twice] at hrg2
        have hf : fdel (pf (mixB S left) c) x = pf (mixB S (fun z => left z && z != x)) c := by
          rw [HG.out]
          funext k
          unfold fdel pf stDel
          by_cases e : k = x
          · rw [if_pos e, if_pos e]; rfl
          · rw [if_neg e, if_neg e]
        have HP2 : Hid (PrIs w2 B b (some m) c (mixB S (fun z => left z && z != x))) := by
          show PrIs w2 B b (some m) c (mixB S (fun z => left z && z != x))
          rw [HG.out]
          exact HP1.out.del' hu2 hrg2.map
        have HT2 : Hid (Tch B w w2) := HT1.out.trans (Tch.of_upd hu2 (HP1.out.mB m rfl) (HP1.out.pbm m rfl))
        rw [hf] at hrg2
        have HRg2 : Hid (RngO w2 .i64 (some m) r (pf (mixB S (fun z => left z && z != x)) c) (fun z => left z && z != x) n2) := Or.inr ⟨m, rfl, hrg2⟩
        have HLe : Hid (n2 ≤ n1) := hle2
        clear hrg2 hle2 hu2 hs2 hf
        simp only [Act.put]
        go_wp2
        go_roundw
        case rel => exact ⟨_, n2, HRg2.out, HP2.out, HT2.out⟩
        case measure => rw [HRg2.out.left_eq, HRg.out.left_eq]; have := HLt.out; have := HLe.out; omega
      · have HG : Hid (mixB S (fun z => left z && z != x) = mixB S left) := mixB_stays hp hlx hgo
        have HRg2 : Hid (RngO w1 .i64 mo r (pf (mixB S (fun z => left z && z != x)) c) (fun z => left z && z != x) n1) := by
          show RngO w1 .i64 mo r (pf (mixB S (fun z => left z && z != x)) c) (fun z => left z && z != x) n1
          rw [HG.out]; exact HRg1.out
        have HP2 : Hid (PrIs w1 B b mo c (mixB S (fun z => left z && z != x))) := by
          show PrIs w1 B b mo c (mixB S (fun z => left z && z != x))
          rw [HG.out]; exact HP1.out
        generalize hcx : c x = cx at *
        cases hz : p.zom with
        | false =>
          rw [hz] at d1
          clear hp hmx hgo hlx hcx hz
          go_wp2
          go_roundw
          case rel => exact ⟨_, n1, HRg2.out, HP2.out, HT1.out⟩
          case measure => rw [HRg2.out.left_eq, HRg.out.left_eq]; exact HLt.out
        | true =>
          rw [hz] at d1
          have g0 : (p.par == 0) = false := beq_false_of_ne (fun e => hgo ⟨hz, e⟩)
          clear hp hmx hgo hlx hcx hz
          go_wp2
          go_roundw
          case rel => exact ⟨_, n1, HRg2.out, HP2.out, HT1.out⟩
          case measure => rw [HRg2.out.left_eq, HRg.out.left_eq]; exact HLt.out
theorem exit_nil (k st : Int) (w : World) : Calls Try.prog 13 #[.pointer none, .int .i64 k, .int .i64 st] w fun e w' => e = .returned (.int .i64 3) ∧ w' = w := by
  have hv := live_nil k w
  go_enter Try.func13, Try.ntmps13
  go_wp2_with fail
  refine hv.mono ?_
  rintro e w1 ⟨rfl, hw⟩
  rw [hw]
  clear hw w1 hv
  go_wp2
  go_ret
  exact ⟨rfl, rfl⟩
set_option maxHeartbeats 2000000 in
theorem exit_at (B b : Nat) (S : St) (k st : Int) (w : World) (h : PrAt w B b S) :
    Calls Try.prog 13 #[ptr b, .int .i64 k, .int .i64 st] w fun e w' => e = .returned (.int .i64 (exE S k)) ∧ PrAt w' B b (exS S k st) ∧ Tch B w w' := by
  have hv := live_at B b S k w h
  cases hk : liv S k with
  | false =>
    have HR : Hid (exE S k = 3 ∧ exS S k st = S) := by
      unfold exE exS
      rw [hk, if_neg (by simp), if_neg (by simp)]
      exact ⟨rfl, rfl⟩
    have HH : Hid (PrAt w B b S) := h
    rw [hk] at hv
    clear h hk
    go_enter Try.func13, Try.ntmps13
    go_wp2_with fail
    refine hv.mono ?_
    rintro e w1 ⟨rfl, hw⟩
    rw [hw]
    clear hw w1 hv
    go_wp2
    go_ret
    obtain ⟨e1, e2⟩ := HR.out
    exact ⟨by rw [e1]; rfl, by rw [e2]; exact HH.out, Tch.refl _ _⟩
  | true =>
    obtain ⟨p, hp, hz⟩ := liv_is.1 hk
    obtain ⟨mo, c, hP⟩ := h
    have hs1 := hP.set (p' := ⟨p.par, true, p.st⟩) hp (i := 1) (v := .bool true) rfl
    have hs2 := hs1.1.set (p' := ⟨p.par, true, st⟩) (stPut_same _ _ _) (i := 2) (v := .int .i64 st) rfl
    have hST : stPut (stPut S k ⟨p.par, true, p.st⟩) k ⟨p.par, true, st⟩ = stPut S k ⟨p.par, true, st⟩ := by
      funext x
      unfold stPut
      by_cases e : x = k
      · rw [if_pos e, if_pos e]
      · rw [if_neg e, if_neg e, if_neg e]
    rw [hST] at hs2
    obtain ⟨W, hW⟩ : ∃ W, W = (w.setCell ⟨c k, 1, none⟩ (.bool true)).setCell ⟨c k, 2, none⟩ (.int .i64 st) := ⟨_, rfl⟩
    rw [← hW] at hs2
    have HTW : Hid (Tch B w W) := hs1.2.trans hs2.2
    have HR : Hid (exE S k = 0 ∧ exS S k st = bur (orph (stPut S k ⟨p.par, true, st⟩) k)) := by
      unfold exE exS parI
      rw [hk, if_pos rfl, if_pos rfl, hp]
      exact ⟨rfl, rfl⟩
    have hO := orphan_at B b (stPut S k ⟨p.par, true, st⟩) k W ⟨mo, c, hs2.1⟩
    have c0 := hP.cell
    have hl := hP.look_some hp
    have q1 := (hP.cells hp).2.1
    have q2 := (hP.cells hp).2.2
    have f1 : w.frozen? ⟨c k, 1, none⟩ = false := frozen_of_heap (hP.pr k p hp)
    have q3 : (w.setCell ⟨c k, 1, none⟩ (.bool true)).cell? ⟨c k, 2, none⟩ = some (.int .i64 p.st) := by rw [cell_of_heap (hs1.1.pr k _ (stPut_same _ _ _))]; rfl
    have f3 : (w.setCell ⟨c k, 1, none⟩ (.bool true)).frozen? ⟨c k, 2, none⟩ = false := frozen_of_heap (hs1.1.pr k _ (stPut_same _ _ _))
    have HW : Hid _ := hW
    rw [hk] at hv
    clear hP hs1 hs2 hST hW hp hz hk
    generalize stPut S k ⟨p.par, true, st⟩ = S2 at *
    generalize c k = cc at *
    go_enter Try.func13, Try.ntmps13
    go_wp2_with fail
    refine hv.mono ?_
    rintro e w1 ⟨rfl, hw⟩
    rw [hw]
    clear hw w1 hv
    go_wp2_with fail
    rw [← HW.out]
    refine hO.mono ?_
    rintro e w1 ⟨rfl, hA1, hT1⟩
    have hBu := bury_at B b _ w1 hA1
    have HT1 : Hid (Tch B w w1) := HTW.out.trans hT1
    clear hO hA1 hT1 HW c0 hl q1 q2 q3 f1 f3
    go_wp2_with fail
    refine hBu.mono ?_
    rintro e w2 ⟨rfl, hA2, hT2⟩
    have HA2 : Hid _ := hA2
    have HT2 : Hid (Tch B w w2) := HT1.out.trans hT2
    clear hBu hA2 hT2
    go_wp2
    go_ret
    obtain ⟨e1, e2⟩ := HR.out
    exact ⟨by rw [e1]; rfl, by rw [e2]; exact HA2.out, HT2.out⟩
end Go.Proofs.Ytfcpcncafopobaa
