/- The reference kernel in the heap: where it lies, New, cap. -/
import Derived.Test.YtfnafjddajgahaaGreatRefT9
import Derived.Test.YtfnafjddajgahaaGreatRkM
import Derived.Test.YtfnafjddajgahaaGreatRefMem
import Derived.Test.YtfnafjddajgahaaGreatExF
namespace Go.Proofs.YtfnafjddajgahaaGreat
open Go.RowKit Ca
set_option linter.unusedVariables false

/-- Where the reference kernel's parts lie. -/
structure RLay where
  bx : Nat
  gx : Nat
  cap : Nat
  rs : List Nat
  c : Nat
  M : Nat
/-- Block X is the reference kernel. -/
structure RkAt (w : World) (X : Nat) (Q : RLay) (n : Nat) (vs : List Int) (L : List Ce) (last : Int) (F : Pages) : Prop where
  tbl : RTs w X Q.bx Q.c F
  mem : Me.RefAt w Q.bx Q.gx Q.cap n Q.rs vs
  caps : ∃ sv, Ca.RefAt Q.M w Q.c sv L last
  lo1 : Q.bx < Q.c
  lo2 : Q.gx < Q.c
  lo3 : ∀ i, i < n → Q.rs.getD i 0 < Q.c
  cX : Q.c < X
  XM : X < Q.M
  MS : Q.M ≤ w.heap.size
/-- What its calls write. -/
def RFoot (X : Nat) (Q : RLay) (n : Nat) (b : Nat) : Prop := b = X ∨ b = Q.c ∨ Me.Rows? n Q.rs b
/-- All of it lies from R on. -/
structure RLow (Q : RLay) (n R : Nat) : Prop where
  l1 : R ≤ Q.bx
  l2 : R ≤ Q.gx
  l3 : ∀ i, i < n → R ≤ Q.rs.getD i 0

theorem caps_keepP {M : Nat} {w w' : World} {c : Nat} {sv : Value} {L : List Ce} {last : Int} {P : Nat → Prop} (h : Ca.RefAt M w c sv L last) (hu : UpdP P w w') (hc : ¬ P c) (hM : ∀ b, P b → b < M) : Ca.RefAt M w' c sv L last :=
  ⟨(hu.block _ h.lt hc).trans h.head, Ca.ownsRow_at h.own (fun g hg => hu.block g (h.own.lt g hg).2 (fun e => by have := hM g e; have := Ca.ownsRow_low h.own g hg; omega)), h.nil⟩

section
variable {w w' : World} {X : Nat} {Q : RLay} {n : Nat} {vs : List Int} {L : List Ce} {last : Int} {F : Pages}
theorem RkAt.below (h : RkAt w X Q n vs L last F) (hb : Below w.heap.size w w') : RkAt w' X Q n vs L last F := by
  obtain ⟨sv, hc⟩ := h.caps
  exact ⟨⟨h.tbl.1.below hb, h.tbl.2⟩, h.mem.below hb, ⟨sv, hc.below hb⟩, h.lo1, h.lo2, h.lo3, h.cX, h.XM, Nat.le_trans h.MS hb.size⟩
theorem RkAt.updM {vs' : List Int} (h : RkAt w X Q n vs L last F) (hm : Me.RefAt w' Q.bx Q.gx Q.cap n Q.rs vs') (hu : UpdP (Me.Rows? n Q.rs) w w') : RkAt w' X Q n vs' L last F := by
  obtain ⟨sv, hc⟩ := h.caps
  have h1 := h.cX
  have h2 := h.XM
  refine ⟨⟨h.tbl.1.keep (hu.block _ h.tbl.1.lt ?_), h.tbl.2⟩, hm, ⟨sv, caps_keepP hc hu ?_ ?_⟩, h.lo1, h.lo2, h.lo3, h.cX, h.XM, Nat.le_trans h.MS hu.size⟩
  · rintro ⟨i, hi, e⟩
    have := h.lo3 i hi
    omega
  · rintro ⟨i, hi, e⟩
    have := h.lo3 i hi
    omega
  · rintro b ⟨i, hi, e⟩
    have := h.lo3 i hi
    omega
theorem RkAt.updC {sv' : Value} {L' : List Ce} {last' : Int} (h : RkAt w X Q n vs L last F) (hc : Ca.RefAt Q.M w' Q.c sv' L' last') (hu : Upd Q.c w w') : RkAt w' X Q n vs L' last' F := by
  have h1 := h.cX
  have h2 := h.lo1
  have h3 := h.lo2
  exact ⟨⟨h.tbl.1.keep (hu.block _ h.tbl.1.lt (by omega)), h.tbl.2⟩, h.mem.keep (hu.block _ (lt_of_heap h.mem.head) (by omega)) (hu.block _ h.mem.tablt (by omega)) (fun i hi => hu.block _ (lt_of_heap (h.mem.row i hi)) (by have := h.lo3 i hi; omega)), ⟨sv', hc⟩, h.lo1, h.lo2, h.lo3, h.cX, h.XM, Nat.le_trans h.MS hu.size⟩
theorem RkAt.updT {F' : Pages} (h : RkAt w X Q n vs L last F) (ht : RTs w' X Q.bx Q.c F') (hu : Upd X w w') : RkAt w' X Q n vs L last F' := by
  obtain ⟨sv, hc⟩ := h.caps
  have h1 := h.cX
  have h2 := h.lo1
  have h3 := h.lo2
  have h4 := h.XM
  exact ⟨ht, h.mem.keep (hu.block _ (lt_of_heap h.mem.head) (by omega)) (hu.block _ h.mem.tablt (by omega)) (fun i hi => hu.block _ (lt_of_heap (h.mem.row i hi)) (by have := h.lo3 i hi; omega)), ⟨sv, hc.keepU hu (by omega) (by omega)⟩, h.lo1, h.lo2, h.lo3, h.cX, h.XM, Nat.le_trans h.MS hu.size⟩
/-- What the other kernel writes leaves it as it was. -/
theorem RkAt.keepK {P : Nat → Prop} {R : Nat} (h : RkAt w X Q n vs L last F) (hr : RLow Q n R) (hu : UpdP P w w') (hP : ∀ b, P b → b < R) : RkAt w' X Q n vs L last F := by
  obtain ⟨sv, hc⟩ := h.caps
  have h1 := h.cX
  have h2 := h.lo1
  have h4 := h.XM
  have h5 := hr.l1
  have h6 := hr.l2
  refine ⟨⟨h.tbl.1.keep (hu.block _ h.tbl.1.lt (fun e => by have := hP _ e; omega)), h.tbl.2⟩, h.mem.keep (hu.block _ (lt_of_heap h.mem.head) (fun e => by have := hP _ e; omega)) (hu.block _ h.mem.tablt (fun e => by have := hP _ e; omega)) (fun i hi => hu.block _ (lt_of_heap (h.mem.row i hi)) (fun e => by have := hP _ e; have := hr.l3 i hi; omega)), ⟨sv, caps_keepP hc hu (fun e => by have := hP _ e; omega) (fun b hb => by have := hP b hb; omega)⟩, h.lo1, h.lo2, h.lo3, h.cX, h.XM, Nat.le_trans h.MS hu.size⟩
theorem RkAt.same {F' : Pages} (h : RkAt w X Q n vs L last F) (hF : ∀ e, e < 12 → F e = F' e) : RkAt w X Q n vs L last F' :=
  ⟨⟨h.tbl.1.same (fun e he => by show rrow (F e) = rrow (F' e); rw [hF e he]), fun e he => by rw [← hF e he]; exact h.tbl.2 e he⟩, h.mem, h.caps, h.lo1, h.lo2, h.lo3, h.cX, h.XM, h.MS⟩
theorem RkAt.x0 (h : RkAt w X Q n vs L last F) : w.cell? ⟨X, 0, none⟩ = some (ptr Q.bx) := h.tbl.1.c0
theorem RkAt.x1 (h : RkAt w X Q n vs L last F) : w.cell? ⟨X, 1, none⟩ = some (ptr Q.c) := h.tbl.1.c1

set_option maxHeartbeats 1000000 in
theorem rkcap_at {T : Tab} (h : RkAt w X Q n vs L last F) (hk : Lnk T L last n F) (e s r : Int) (hr : r = 1 ∨ r = 2 ∨ r = 3) :
    Calls Tryz.prog 61 #[ptr X, .int .i64 e, .int .i64 s, .int .i64 r] w fun x w' => x = .returned (.tuple #[.int .i64 (getT T e s).id, .bool (frm T e s r).isSome]) ∧ Below w.heap.size w w' := by
  obtain ⟨sv, hC⟩ := h.caps
  have hg := rget_at Q.M Q.c sv L last e s w hC (by have := hk.len; omega)
  obtain ⟨q1, q2⟩ := hk.rel.get e s
  rw [← q1, ← q2] at hg
  have hc := h.x1
  have HF : Hid (frm T e s r = if ((getT T e s).is && among r (getT T e s).rights) = true then some (getT T e s).id else none) := rfl
  have HO : Hid ((getT T e s).is = true → OkC n (getT T e s)) := fun hi => hk.inv.get hi
  clear h hC q1 q2
  generalize frm T e s r = R at *
  generalize getT T e s = x at *
  obtain ⟨k, i, l, q⟩ := x
  cases hi : Cp.is ⟨k, i, l, q⟩ with
  | false =>
    rw [hi] at hg
    have HR : Hid (R = none) := by show _ = _; rw [HF.out, hi]; rfl
    clear HF HO hi
    dsimp only [cpRow] at *
    go_enter Tryz.func61, Tryz.ntmps61
    go_wp2_with (go_at_call 49; refine hg.mono ?_; rintro e w1 ⟨rfl, hb⟩)
    go_quiet (fail)
    go_wp2
    go_ret2
    exact ⟨by rw [HR.out]; rfl, below_drewN (hb.alloc hb.size _) _⟩
  | true =>
    rw [hi] at hg
    obtain ⟨_, _, _, _, o5, o6⟩ := HO.out hi
    have ha := and_is (q := q) ⟨by dsimp only at o5; omega, o6⟩ hr
    have HF2 : Hid (R = if among r q = true then some i else none) := by show _ = _; rw [HF.out, hi]; rfl
    clear HF HO hi o5 o6
    rw [← ha] at HF2
    clear ha
    dsimp only [cpRow] at *
    cases hbq : (bits .and .i64 q r == r) with
    | false =>
      have HR : Hid (R = none) := by show _ = _; rw [HF2.out, hbq]; rfl
      clear HF2
      go_enter Tryz.func61, Tryz.ntmps61
      go_wp2_with (go_at_call 49; refine hg.mono ?_; rintro e w1 ⟨rfl, hb⟩)
      go_quiet (fail)
      go_wp2
      go_ret2
      exact ⟨by rw [HR.out]; rfl, below_drewN (hb.alloc hb.size _) _⟩
    | true =>
      have HR : Hid (R = some i) := by show _ = _; rw [HF2.out, hbq]; rfl
      clear HF2
      go_enter Tryz.func61, Tryz.ntmps61
      go_wp2_with (go_at_call 49; refine hg.mono ?_; rintro e w1 ⟨rfl, hb⟩)
      go_quiet (fail)
      go_wp2
      go_ret2
      exact ⟨by rw [HR.out]; rfl, below_drewN (hb.alloc hb.size _) _⟩
end

/-- A kernel's cells when it is new. -/
def kz (a b : Nat) : Array Value := #[ptr a, ptr b] ++ (Array.range 144).map (fun i => if i % 12 < 8 ∧ i % 2 = 0 then .int .i64 0 else .bool false)
theorem kz_is (a b : Nat) : (Tryz.zeroCells72.setIfInBounds 0 (ptr a)).setIfInBounds 1 (ptr b) = kz a b := by kernel_rfl
theorem kz_row {W : World} {X a b : Nat} (h : W.heap[X]? = some (.cells (kz a b) 72)) : RTs W X a b (fun _ _ => none) := by
  refine ⟨⟨kz a b, h, by simp [kz], by unfold kz; rw [Array.getElem?_append_left (by simp)]; rfl, by unfold kz; rw [Array.getElem?_append_left (by simp)]; rfl, fun e he i hi => ?_⟩, fun e he k y hy => by cases hy⟩
  have hz : (kz a b)[2 + e * 12 + i]? = some (if i < 8 ∧ i % 2 = 0 then .int .i64 0 else .bool false) := by
    unfold kz
    rw [Array.getElem?_append_right (by simp; omega)]
    have e1 : 2 + e * 12 + i - (#[ptr a, ptr b] : Array Value).size = e * 12 + i := by simp; omega
    rw [e1, Array.getElem?_map, Array.getElem?_range, if_pos (by omega)]
    have e2 : (e * 12 + i) % 12 = i := by omega
    have e3 : (e * 12 + i) % 2 = i % 2 := by omega
    simp only [Option.map_some, e2, e3]
  rw [hz]
  match i, hi with
  | 0, _ => rfl
  | 1, _ => rfl
  | 2, _ => rfl
  | 3, _ => rfl
  | 4, _ => rfl
  | 5, _ => rfl
  | 6, _ => rfl
  | 7, _ => rfl
  | 8, _ => rfl
  | 9, _ => rfl
  | 10, _ => rfl
  | 11, _ => rfl

theorem rknew_no (n : Int) (w : World) (h : n < 1 ∨ 1024 < n) :
    Calls Tryz.prog 7 #[.int .i64 n] w fun x w' => x = .returned (.pointer none) ∧ w' = w := by
  have hm := Me.rnew_no n w h
  clear h
  go_enter Tryz.func7, Tryz.ntmps7
  go_wp2_with fail
  refine hm.mono ?_
  rintro x w1 ⟨rfl, rfl⟩
  go_wp2_with fail
  go_ret
  exact ⟨rfl, rfl⟩
set_option maxRecDepth 100000 in
set_option maxHeartbeats 4000000 in
theorem rknew_at (n : Int) (w : World) (h1 : 1 ≤ n) (h2 : n ≤ 1024) :
    Calls Tryz.prog 7 #[.int .i64 n] w fun x w' => ∃ X Q, x = .returned (ptr X) ∧ RkAt w' X Q n.toNat (List.replicate (n.toNat * 32) 0) [] 0 (fun _ _ => none) ∧ Below w.heap.size w w' ∧ RLow Q n.toNat w.heap.size := by
  have hm := Me.rnew_at n w h1 h2
  have hn : 0 < n.toNat := by omega
  clear h1 h2
  have HN : Hid _ := hn
  clear hn
  go_enter Tryz.func7, Tryz.ntmps7
  go_wp2_with fail
  refine hm.mono ?_
  rintro x w1 ⟨rfl, ⟨v, rs, hM⟩, hb1⟩
  obtain ⟨gx, cap, hR, hg, hrs⟩ := hM.done HN.out
  have hbld : Hid _ := kz_is w.heap.size w1.heap.size
  have HKZ : Hid (∀ (W : World) (X : Nat), W.heap[X]? = some (.cells (kz w.heap.size w1.heap.size) 72) → RTs W X w.heap.size w1.heap.size (fun _ _ => none)) := fun W X h => kz_row h
  generalize kz w.heap.size w1.heap.size = kk at *
  have HR : Hid _ := hR
  have HB : Hid _ := hb1
  have HG : Hid _ := And.intro hg hrs
  clear hm hM hR hb1 hg hrs
  go_wp2
  go_ret
  rw [hbld.out]
  have hs := HB.out.size
  have a1 := Below.trans HB.out ((below_alloc w1 (.cells #[.slice none 0 0, .int .i64 0] 65)).mono hs)
  have hbb := below_alloc2 w1 (.cells #[.slice none 0 0, .int .i64 0] 65) (.cells kk 72)
  refine ⟨w1.heap.size + 1, ⟨w.heap.size, gx, cap, rs, w1.heap.size, w1.heap.size + 2⟩, rfl, ⟨HKZ.out _ _ ?_, HR.out.below hbb, ⟨.slice none 0 0, ?_, World.ownsRow_nil _ _ _ _, fun _ => rfl⟩, lt_of_heap HR.out.head, HR.out.tablt, fun i hi => lt_of_heap (HR.out.row i hi), by simp, by simp, by simp⟩, HB.out.trans (hbb.mono hs), ⟨Nat.le_refl _, Nat.le_of_lt HG.out.1, fun i hi => Nat.le_of_lt (HG.out.2 i hi)⟩⟩
  · have := heap_alloc_new (w1.alloc (.cells #[.slice none 0 0, .int .i64 0] 65)) (.cells kk 72)
    rw [World.size_alloc] at this
    exact this
  · exact (Below.heap_alloc _ _ _ (by simp)).trans (heap_alloc_new _ _)
end Go.Proofs.YtfnafjddajgahaaGreat
