/- Raw calls one behind another; rows of words that stay while an exokernel works. -/
import Derived.Test.YtbhpafgoofkkmaaGreatDoorXoW
import Derived.Test.YtbhpafgoofkkmaaGreatDoorXoR
import Derived.Test.YtbhpafgoofkkmaaGreatDoorArgs13b
namespace Go.Proofs.YtbhpafgoofkkmaaGreatDoor
open Go.RowKit
set_option linter.unusedVariables false

/-- An exokernel behind so many calls. -/
structure RunAt (w wr : World) (K : Nat) (L : XL) (k : Nat) (S : XS) : Prop where
  ex : ExoAt wr K L S
  xi : XI S
  m : S.m ≤ k
  d : S.d = 16
  bl : Below w.heap.size w wr
section
variable {w wr w' w2 : World} {K k : Nat} {L : XL} {S S' : XS}
/-- Pages are near. -/
theorem ExoAt.near (h : ExoAt w K L S) : ∀ e, e < 12 → ∀ k x, S.F e k = some x → 0 ≤ k ∧ k < 4 := fun e he k x hx => by
  have := (h.mem.tbl e he).near k x hx
  exact ⟨this.1, this.2.1⟩
/-- A raw call. -/
theorem run_raw (h : RunAt w wr K L k S) (hF : Frm w) (hL : XLow L w.heap.size) (d : Ask) (hd : AskOk w d) (hk : k ≤ 900000) :
    Calls Tryz.prog 9 #[ptr K, .int .i64 d.e, .slice d.a d.ws.length d.cap] wr fun x w' => ∃ S' a n c err, x = .returned (.tuple #[.slice a n c, .int .i64 err]) ∧ RunAt w w' K L (k + 1) S' ∧ (err ≠ 0 → n = 0 ∧ Alike S S') ∧ XTch L True wr w' := by
  have hs := h.bl.size
  refine (rawx_at h.ex (hF.below (Frm.pos hF) h.bl) h.xi d.e _ d.ws (fun w' ht => hd.1.below (h.bl.trans (ht.below hL.f hL.x hL.i hs))) hd.2 (Nat.le_trans h.m hk)).mono ?_
  rintro x w' ⟨a', c', _, a, n, c, rfl, hr, hE, ht⟩
  have hb : Below w.heap.size w w' := h.bl.trans (ht.below hL.f hL.x hL.i hs)
  have hS := rawS_same S d.e d.ws a' c'
  refine ⟨_, a, n, c, _, rfl, ⟨hE, h.xi.raw h.ex.mem.inv d.e d.ws hd.2 a' c', by have := hS.m; have := h.m; omega, hS.d.trans h.d, hb⟩, fun he => ?_, ht.mono fun _ => trivial⟩
  obtain ⟨h1, h2⟩ := rawS_err h.xi h.ex.near d.e d.ws a' c' he
  rw [h2] at hr
  obtain ⟨_, _, e, _⟩ := hr
  injection e with _ e2 _
  exact ⟨e2, h1⟩
/-- A look: from w0 on only words are laid, and the disk's count moves. -/
structure LookAt (w0 wr : World) (K : Nat) (L : XL) (S : XS) (k : Nat) : Prop where
  e0 : ExoAt w0 K L S
  ee : ∃ m, m ≤ k ∧ ExoAt wr K L (S.mv m)
  u : Upd L.D.b w0 wr
  d : S.d = 16
theorem look_start (h : ExoAt w K L S) (hm : S.m ≤ k) (hd : S.d = 16) : LookAt w w K L S k := ⟨h, ⟨S.m, hm, h⟩, Upd.refl _ _, hd⟩
theorem LookAt.over {w0 : World} (h : LookAt w0 wr K L S k) (hb : Below w0.heap.size wr w') : LookAt w0 w' K L S k := by
  obtain ⟨m, hm, he⟩ := h.ee
  obtain ⟨h1, h2⟩ := ExoAt.over h.e0 he h.u hb
  exact ⟨h.e0, ⟨m, hm, h1⟩, h2, h.d⟩
theorem LookAt.size {w0 : World} (h : LookAt w0 wr K L S k) : w0.heap.size ≤ wr.heap.size := h.u.size
theorem look_sees {w0 : World} (h : LookAt w0 wr K L S k) (e : Int) (hk : k ≤ 800000) :
    Calls Tryz.prog 12 #[ptr K, .int .i64 e] wr fun x w' => ∃ v, x = .returned v ∧ URow wr.heap.size w' v (seesV S e) ∧ LookAt w0 w' K L S (k + 1024) ∧ Upd L.D.b wr w' := by
  obtain ⟨m, hm, he⟩ := h.ee
  refine (sees_at he e (by have := h.d; show m + 64 * S.d ≤ _; omega)).mono ?_
  rintro x w' ⟨v, m', rfl, hr, hE, _, hm', hu⟩
  exact ⟨v, rfl, hr, ⟨h.e0, ⟨m', by have := h.d; have : m' ≤ m + 64 * S.d := hm'; omega, hE⟩, h.u.trans hu, h.d⟩, hu⟩
theorem look_frame {w0 : World} (h : LookAt w0 wr K L S k) (f : Int) :
    Calls Tryz.prog 15 #[ptr K, .int .i64 f] wr fun x w' => ∃ v, x = .returned v ∧ OW w' wr.heap.size v (frmW S.n S.vs f) ∧ LookAt w0 w' K L S k ∧ Below wr.heap.size wr w' := by
  obtain ⟨m, hm, he⟩ := h.ee
  refine (xframe_at he f).mono ?_
  rintro x w' ⟨v, rfl, ho, hb⟩
  exact ⟨v, rfl, ho, h.over (hb.mono h.size), hb⟩
theorem look_block {w0 : World} (h : LookAt w0 wr K L S k) (b : Int) (hb : Ca.I64 b) (hk : k ≤ 900000) :
    Calls Tryz.prog 16 #[ptr K, .int .i64 b] wr fun x w' => ∃ v, x = .returned v ∧ URow wr.heap.size w' v (Xd.wordsW S.d S.l S.ds b) ∧ LookAt w0 w' K L S (k + 1) ∧ Upd L.D.b wr w' := by
  obtain ⟨m, hm, he⟩ := h.ee
  refine (xblock_at he b hb (show m ≤ _ by omega)).mono ?_
  rintro x w' ⟨v, rfl, hr, hE, hu⟩
  exact ⟨v, rfl, hr, ⟨h.e0, ⟨m + 1, by omega, hE⟩, h.u.trans hu, h.d⟩, hu⟩
/-- The disk's own block. -/
theorem LookAt.disk {w0 : World} (h : LookAt w0 wr K L S k) : ∃ cs, wr.heap[L.D.b]? = some (.cells cs 272) := by
  obtain ⟨m, hm, he⟩ := h.ee
  obtain ⟨_, _, hd, _⟩ := he.disk.disk
  exact ⟨_, hd.head⟩
/-- What stays while the disk's count moves. -/
theorem LookAt.stay {w0 : World} (h : LookAt w0 wr K L S k) (hu : Upd L.D.b wr w') {g : Nat} {cs : Array Value} {t : TypeId} {fr : Nat × Nat} (e : wr.heap[g]? = some (.cells cs t fr)) (ht : t ≠ 272) : w'.heap[g]? = some (.cells cs t fr) := by
  obtain ⟨cs', hd⟩ := h.disk
  exact (hu.block g (lt_of_heap e) (heap_apart e hd ht)).trans e
theorem LookAt.urow {w0 : World} {M : Nat} {v : Value} {xs : List Int} (h : LookAt w0 wr K L S k) (hu : Upd L.D.b wr w') (hr : URow M wr v xs) : URow M w' v xs := by
  obtain ⟨cs', hd⟩ := h.disk
  exact URow.upd hr hu hd (by decide)
theorem LookAt.ow {w0 : World} {B : Nat} {v : Value} {xs : List Int} (h : LookAt w0 wr K L S k) (hu : Upd L.D.b wr w') (hr : OW wr B v xs) : OW w' B v xs := by
  refine ⟨hr.1, ?_⟩
  rcases hr.2 with h2 | ⟨g, cap, cur, e, h1, h3, r⟩
  · exact Or.inl h2
  · exact Or.inr ⟨g, cap, cur, e, h1, h.stay hu h3 (by decide), r⟩
theorem OW.grown {B : Nat} {v u : Value} {xs : List Int} (h : OW w B v xs) (hg : w.grownBy w' u.ownBlock) (hx : ∀ g, v.ownBlock = some g → u.ownBlock ≠ some g) : OW w' B v xs := by
  refine ⟨h.1, ?_⟩
  rcases h.2 with h2 | ⟨g, cap, cur, e, h1, h3, r⟩
  · exact Or.inl h2
  · exact Or.inr ⟨g, cap, cur, e, h1, (hg.block g (lt_of_heap h3) (fun q => hx g (by rw [e]; rfl) q.symm)).trans h3, r⟩
theorem OW.lt {B : Nat} {v : Value} {xs : List Int} (h : OW w B v xs) : ∀ g, v.ownBlock = some g → g < w.heap.size := by
  intro g hg
  rcases h.2 with ⟨rfl, _⟩ | ⟨g', cap, cur, e, h1, h3, r⟩
  · cases hg
  · rw [e] at hg
    have : g' = g := by simpa [Value.ownBlock] using hg
    subst this
    exact lt_of_heap h3
end
/-- append(own, others...): what else stays, and where the row lies. -/
theorem grow_at {w : World} {B : Nat} {v u : Value} {xs ys : List Int} (h : OW w B v xs) (hu : RdV w u ys) (hl : (xs.length + ys.length) * 8 ≤ 140737488355328) (hB : B ≤ w.heap.size) :
    ∃ a' c' w', (∀ ty, (Builtin.append_ #[27, 27] ty #[v, u]).run Tryz.prog w = .ok (.slice a' (xs.length + ys.length) c') w') ∧ OW w' B (.slice a' (xs.length + ys.length) c') (xs ++ ys) ∧ Below B w w' ∧ w.grownBy w' v.ownBlock ∧ ∀ g, (Value.slice a' (xs.length + ys.length) c').ownBlock = some g → v.ownBlock = some g ∨ g = w.heap.size := by
  obtain ⟨a, c, rfl, _, hr⟩ := hu
  obtain ⟨i0, hi0, hzz⟩ := Option.map_eq_some_iff.1 Di.wordInfo
  simp only [Prod.mk.injEq] at hzz
  obtain ⟨hz0, hz1, hz2⟩ := hzz
  by_cases hn : ys.length = 0
  · have : ys = [] := List.length_eq_zero_iff.1 hn
    subst this
    obtain ⟨av, cv, rfl, hcv⟩ := h.form
    refine ⟨av, cv, w, fun ty => ?_, ?_, Below.refl _ _, ⟨rfl, rfl, rfl, Nat.le_refl _, fun _ _ _ => rfl⟩, fun g hg => Or.inl hg⟩
    · have := Ip.run_append_zero (P := Tryz.prog) w 27 42 i0 Tryz.underlying27 hi0 av a xs.length cv c hcv ty
      simpa using this
    · simpa using h
  · obtain ⟨x, hx⟩ : ∃ x, ys[0]? = some x := ⟨ys[0], List.getElem?_eq_getElem (by omega)⟩
    obtain ⟨g, off, rfl, _⟩ := hr 0 x hx
    obtain ⟨g', cap', w', hrun, hown, hgrow, hat, _⟩ := run_append_lies (P := Tryz.prog) w 27 0 B 42 i0 _ 1 8 Tryz.underlying27 hi0 hz0 hz1 hz2 rfl (by omega) v xs.length (uvs xs) h
      ⟨g, off, none⟩ ys.length c (uvs ys) (by rw [uvs_len]; omega) (fun j u hu => by
        obtain ⟨y, hy, rfl⟩ := uvs_get hu
        obtain ⟨g2, off2, e, hc⟩ := hr j y hy
        simp only [Option.some.injEq, Addr.mk.injEq] at e
        obtain ⟨rfl, rfl, _⟩ := e
        rw [add0]
        exact hc) (uvs_one ys) (by omega) (by unfold maxLen; omega) (by omega) hB _ rfl
    have e1 : (xs ++ ys).length = xs.length + ys.length := List.length_append
    have e2 : uvs (xs ++ ys) = uvs xs ++ uvs ys := by simp [uvs]
    refine ⟨some ⟨g', 0, none⟩, cap', w', fun ty => hrun, by unfold OW; rw [e1, e2]; exact hown, below_grown hgrow hB (ownsRow_low h), hgrow, fun q hq => ?_⟩
    have : g' = q := by simpa [Value.ownBlock] using hq
    subst this
    exact hat
theorem grow_row {w : World} {B : Nat} {v u : Value} {xs ys : List Int} (h : OW w B v xs) (hu : RdV w u ys) (hl : (xs.length + ys.length) * 8 ≤ 140737488355328) (hB : B ≤ w.heap.size) :
    ∃ a' n' c' w', (∀ ty, (Builtin.append_ #[27, 27] ty #[v, u]).run Tryz.prog w = .ok (.slice a' n' c') w') ∧ OW w' B (.slice a' n' c') (xs ++ ys) ∧ Below B w w' ∧ w.grownBy w' v.ownBlock ∧ ∀ g, (Value.slice a' n' c').ownBlock = some g → v.ownBlock = some g ∨ g = w.heap.size := by
  obtain ⟨a', c', w', r⟩ := grow_at h hu hl hB
  exact ⟨a', _, c', w', r⟩
theorem OW.shape {w : World} {B : Nat} {v : Value} {xs : List Int} (h : OW w B v xs) : ∃ a n c, v = .slice a n c := by
  obtain ⟨a, c, e, _⟩ := h.form
  exact ⟨a, _, c, e⟩
theorem URow.shape {w : World} {B : Nat} {v : Value} {xs : List Int} (h : URow B w v xs) : ∃ a n c, v = .slice a n c := by
  obtain ⟨a, c, e, _⟩ := h
  exact ⟨a, _, c, e⟩
/-- All frames under k; all blocks. -/
def catF (S : XS) : Nat → List Int
  | 0 => []
  | k + 1 => catF S k ++ frmW S.n S.vs (k : Int)
def catB (S : XS) : Nat → List Int
  | 0 => []
  | k + 1 => catB S k ++ Xd.wordsW S.d S.l S.ds (k : Int)
theorem catF_len (S : XS) : ∀ k, (catF S k).length ≤ 32 * k
  | 0 => by simp [catF]
  | k + 1 => by
    have h1 := catF_len S k
    have h2 := frmW_len S.n S.vs (k : Int)
    simp only [catF, List.length_append]
    omega
theorem Alike.catF {S S' : XS} (h : Alike S S') : ∀ k, Go.Proofs.YtbhpafgoofkkmaaGreatDoor.catF S' k = Go.Proofs.YtbhpafgoofkkmaaGreatDoor.catF S k
  | 0 => rfl
  | k + 1 => by
    unfold Go.Proofs.YtbhpafgoofkkmaaGreatDoor.catF
    rw [h.catF k, h.frame]
theorem Alike.catB {S S' : XS} (h : Alike S S') : ∀ k, Go.Proofs.YtbhpafgoofkkmaaGreatDoor.catB S' k = Go.Proofs.YtbhpafgoofkkmaaGreatDoor.catB S k
  | 0 => rfl
  | k + 1 => by
    unfold Go.Proofs.YtbhpafgoofkkmaaGreatDoor.catB
    rw [h.catB k, h.block]
/-- Two rows of words that lie apart. -/
structure Duo13 (w : World) (B : Nat) (u v : Value) (xs ys : List Int) : Prop where
  l : OW w B u xs
  r : OW w B v ys
  ne : ∀ g, u.ownBlock = some g → v.ownBlock ≠ some g
end Go.Proofs.YtbhpafgoofkkmaaGreatDoor
