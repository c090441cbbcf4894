import Derived.Test.YtbhpafgoofkkmaaGreatDoorXoW
import Derived.Test.YtbhpafgoofkkmaaGreatDoorXoR
import Derived.Test.YtbhpafgoofkkmaaGreatDoorArgs13b
set_option linter.all false
namespace Go.Proofs.YtbhpafgoofkkmaaGreatDoor
open Go.RowKit
structure RunAt (w wr : World) (K : Nat) (L : XL) (k : Nat) (S : XS) : Prop where
 ex : ExoAt wr K L S
 xi : XI S
 m : S.m ≤ k
 d : S.d = 16
 bl : Below w.heap.size w wr
section
variable {w wr w' w2 : World} {K k : Nat} {L : XL} {S S' : XS}
structure LookAt (w0 wr : World) (K : Nat) (L : XL) (S : XS) (k : Nat) : Prop where
 e0 : ExoAt w0 K L S
 ee : ∃ m, m ≤ k ∧ ExoAt wr K L (S.mv m)
 u : Upd L.D.b w0 wr
 d : S.d = 16
theorem look_start (h : ExoAt w K L S) (hm : S.m ≤ k) (hd : S.d = 16) : LookAt w w K L S k := ⟨h, ⟨S.m, hm, h⟩, Upd.refl _ _, hd⟩
theorem LookAt.over {w0 : World} (h : LookAt w0 wr K L S k) (hb : Below w0.heap.size wr w') : LookAt w0 w' K L S k := by
 obtain ⟨m, hm, he⟩ := h.ee
 obtain ⟨h1, h2⟩ := ExoAt.over h.e0 he h.u hb
 exact ⟨h.e0, ⟨m, hm, h1⟩, h2, h.d⟩
theorem LookAt.size {w0 : World} (h : LookAt w0 wr K L S k) : w0.heap.size ≤ wr.heap.size := h.u.size
theorem look_frame {w0 : World} (h : LookAt w0 wr K L S k) (f : Int) :
  Calls Tryz.prog 15 #[ptr K, .int .i64 f] wr fun x w' => ∃ v, x = .returned v ∧ OW w' wr.heap.size v (frmW S.n S.vs f) ∧ LookAt w0 w' K L S k ∧ Below wr.heap.size wr w' := by
 obtain ⟨m, hm, he⟩ := h.ee
 refine (xframe_at he f).mono ?_
 rintro x w' ⟨v, rfl, ho, hb⟩
 exact ⟨v, rfl, ho, h.over (hb.mono h.size), hb⟩
theorem look_block {w0 : World} (h : LookAt w0 wr K L S k) (b : Int) (hb : Ca.I64 b) (hk : k ≤ 900000) :
  Calls Tryz.prog 16 #[ptr K, .int .i64 b] wr fun x w' => ∃ v, x = .returned v ∧ URow wr.heap.size w' v (Xd.wordsW S.d S.l S.ds b) ∧ LookAt w0 w' K L S (k + 1) ∧ Upd L.D.b wr w' := by
 obtain ⟨m, hm, he⟩ := h.ee
 refine (xblock_at he b hb (show m ≤ _ by omega)).mono ?_
 rintro x w' ⟨v, rfl, hr, hE, hu⟩
 exact ⟨v, rfl, hr, ⟨h.e0, ⟨m + 1, by omega, hE⟩, h.u.trans hu, h.d⟩, hu⟩
theorem LookAt.disk {w0 : World} (h : LookAt w0 wr K L S k) : ∃ cs, wr.heap[L.D.b]? = some (.cells cs 272) := by
 obtain ⟨m, hm, he⟩ := h.ee
 obtain ⟨_, _, hd, _⟩ := he.disk.disk
 exact ⟨_, hd.head⟩
theorem LookAt.stay {w0 : World} (h : LookAt w0 wr K L S k) (hu : Upd L.D.b wr w') {g : Nat} {cs : Array Value} {t : TypeId} {fr : Nat × Nat} (e : wr.heap[g]? = some (.cells cs t fr)) (ht : t ≠ 272) : w'.heap[g]? = some (.cells cs t fr) := by
 obtain ⟨cs', hd⟩ := h.disk
 exact (hu.block g (lt_of_heap e) (heap_apart e hd ht)).trans e
theorem LookAt.urow {w0 : World} {M : Nat} {v : Value} {xs : List Int} (h : LookAt w0 wr K L S k) (hu : Upd L.D.b wr w') (hr : URow M wr v xs) : URow M w' v xs := by
 obtain ⟨cs', hd⟩ := h.disk
 exact URow.upd hr hu hd (by decide)
end
theorem URow.shape {w : World} {B : Nat} {v : Value} {xs : List Int} (h : URow B w v xs) : ∃ a n c, v = .slice a n c := by
 obtain ⟨a, c, e, _⟩ := h
 exact ⟨a, _, c, e⟩
end Go.Proofs.YtbhpafgoofkkmaaGreatDoor
