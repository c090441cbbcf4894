/- Plain: what alloc, free, resize and write make of a file system; what is kept. Names no program. -/
import Derived.Test.YtinjllnoonbjmaaInoM
namespace Go.Proofs.Ytinjllnoonbjmaa
open Go.RowKit
set_option linter.unusedVariables false

/-- One inode and the blocks in use are laid anew. -/
def FS.put (F : FS) (i : Nat) (x : Ino) (bw : List Nat) : FS := ⟨F.n, F.iw, bw, fun j => if j = i then x else F.ino j⟩
theorem FS.put_same (F : FS) (i : Nat) (x : Ino) (bw : List Nat) : (F.put i x bw).ino i = x := if_pos rfl
theorem FS.put_other (F : FS) (i : Nat) (x : Ino) (bw : List Nat) {j : Nat} (h : j ≠ i) : (F.put i x bw).ino j = F.ino j := if_neg h
/-- What is known of an inode alone. -/
structure InoOk (n : Nat) (bw : List Nat) (x : Ino) : Prop where
  max : x.txt.length ≤ 192
  byte : ∀ y ∈ x.txt, 0 ≤ y ∧ y < 256
  num : 0 ≤ x.kind ∧ x.kind < 9223372036854775808 ∧ 0 ≤ x.links ∧ x.links < 9223372036854775808
  len : x.blk.length = need x.txt.length
  data : ∀ b ∈ x.blk, 12 ≤ b ∧ b < n ∧ Bi.bt bw b = true
  nd : x.blk.Nodup
theorem FInv.ok {F : FS} (h : FInv F) {i : Nat} (hi : i < 32) : InoOk F.n F.bw (F.ino i) := ⟨h.max i hi, h.byte i hi, h.num i hi, h.len i hi, h.data i hi, h.nd i hi⟩
theorem FInv.put {F : FS} (h : FInv F) {i : Nat} (hi : i < 32) (hu : Bi.bt F.iw i = true) {x : Ino} {bw : List Nat} (hw : Bi.Wf F.n bw) (ok : InoOk F.n bw x) (hlow : ∀ b, b < 12 → Bi.bt bw b = true)
    (ho : ∀ j, j < 32 → j ≠ i → ∀ b ∈ (F.ino j).blk, Bi.bt bw b = true ∧ b ∉ x.blk) (hwh : ∀ b, 12 ≤ b → b < F.n → Bi.bt bw b = true → b ∈ x.blk ∨ ∃ j, j < 32 ∧ j ≠ i ∧ b ∈ (F.ino j).blk) : FInv (F.put i x bw) := by
  have hj : ∀ j, j < 32 → InoOk F.n bw ((F.put i x bw).ino j) := by
    intro j hj
    by_cases e : j = i
    · rw [e, FS.put_same]; exact ok
    · rw [FS.put_other _ _ _ _ e]
      have := h.ok hj
      exact ⟨this.max, this.byte, this.num, this.len, fun b hb => ⟨(this.data b hb).1, (this.data b hb).2.1, (ho j hj e b hb).1⟩, this.nd⟩
  refine ⟨h.n1, h.n2, h.iw, hw, hlow, h.root, fun j hj0 hn => ?_, fun j h0 => (hj j h0).max, fun j h0 => (hj j h0).byte, fun j h0 => (hj j h0).num, fun j h0 => (hj j h0).len, fun j h0 => (hj j h0).data, fun j k h1 h2 b hb1 hb2 => ?_, fun j h0 => (hj j h0).nd, fun b h1 h2 h3 => ?_⟩
  · have e : j ≠ i := by
      intro e
      have hn' : Bi.bt F.iw j = false := hn
      rw [e, hu] at hn'
      cases hn'
    rw [FS.put_other _ _ _ _ e]
    exact h.none j hj0 hn
  · by_cases e1 : j = i
    · by_cases e2 : k = i
      · rw [e1, e2]
      · rw [e1, FS.put_same] at hb1
        rw [FS.put_other _ _ _ _ e2] at hb2
        exact absurd hb1 (ho k h2 e2 b hb2).2
    · by_cases e2 : k = i
      · rw [e2, FS.put_same] at hb2
        rw [FS.put_other _ _ _ _ e1] at hb1
        exact absurd hb2 (ho j h1 e1 b hb1).2
      · rw [FS.put_other _ _ _ _ e1] at hb1
        rw [FS.put_other _ _ _ _ e2] at hb2
        exact h.one j k h1 h2 b hb1 hb2
  · rcases hwh b h1 h2 h3 with hb | ⟨j, j1, j2, hb⟩
    · exact ⟨i, hi, by rw [FS.put_same]; exact hb⟩
    · exact ⟨j, j1, by rw [FS.put_other _ _ _ _ j2]; exact hb⟩

/-- A text of another length. -/
def sized (t : List Int) (s : Nat) : List Int := t.take s ++ List.replicate (s - t.length) 0
theorem sized_len (t : List Int) (s : Nat) : (sized t s).length = s := by
  simp [sized]
  omega
theorem sized_byte {t : List Int} (h : ∀ y ∈ t, 0 ≤ y ∧ y < 256) (s : Nat) : ∀ y ∈ sized t s, 0 ≤ y ∧ y < 256 := by
  intro y hy
  rcases List.mem_append.1 hy with hy | hy
  · exact h y (List.mem_of_mem_take hy)
  · rw [List.eq_of_mem_replicate hy]
    omega
/-- How many blocks more a size wants than there are left: none. -/
def roomB (F : FS) (i s : Nat) : Bool := decide (need s - (F.ino i).blk.length ≤ Bi.cntF (Bi.bt F.bw) F.n)
/-- The blocks of the new size; the blocks in use then. -/
def newBlk (F : FS) (i s : Nat) : List Nat := (F.ino i).blk.take (need s) ++ (grow F.n F.bw (need s - (F.ino i).blk.length)).1
def newBw (F : FS) (i s : Nat) : List Nat := back (grow F.n F.bw (need s - (F.ino i).blk.length)).2 ((F.ino i).blk.drop (need s))
def resizeF (F : FS) (i s : Nat) : FS := F.put i ⟨(F.ino i).kind, (F.ino i).links, sized (F.ino i).txt s, newBlk F i s⟩ (newBw F i s)
theorem need_le {s : Nat} (h : s ≤ 192) : need s ≤ 6 := by unfold need; omega
theorem FInv.resize {F : FS} (h : FInv F) {i s : Nat} (hi : i < 32) (hu : Bi.bt F.iw i = true) (hs : s ≤ 192) (hr : roomB F i s = true) : FInv (resizeF F i s) := by
  have hr' : need s - (F.ino i).blk.length ≤ Bi.cntF (Bi.bt F.bw) F.n := of_decide_eq_true hr
  obtain ⟨g1, g2, g3, g4, g5, g6⟩ := grow_ok h.bw hr'
  have hd : ∀ b ∈ (F.ino i).blk.drop (need s), b < F.n := fun b hb => (h.data i hi b (List.mem_of_mem_drop hb)).2.1
  obtain ⟨k1, k2⟩ := back_ok (l := (F.ino i).blk.drop (need s)) g2 hd
  have hbt : ∀ b, Bi.bt (newBw F i s) b = if b ∈ (F.ino i).blk.drop (need s) then false else if b ∈ (grow F.n F.bw (need s - (F.ino i).blk.length)).1 then true else Bi.bt F.bw b := by
    intro b
    show Bi.bt (back _ _) b = _
    rw [k2]
    by_cases q : b ∈ (F.ino i).blk.drop (need s)
    · rw [if_pos q, if_pos q]
    · rw [if_neg q, if_neg q]
      by_cases q2 : b ∈ (grow F.n F.bw (need s - (F.ino i).blk.length)).1
      · rw [if_pos q2]; exact (g3 b q2).2.2
      · rw [if_neg q2]; exact g5 b q2
  have hnew : ∀ b ∈ (grow F.n F.bw (need s - (F.ino i).blk.length)).1, 12 ≤ b ∧ b < F.n ∧ ∀ j, j < 32 → b ∉ (F.ino j).blk := by
    intro b hb
    obtain ⟨q1, q2, _⟩ := g3 b hb
    refine ⟨?_, q1, fun j hj hm => ?_⟩
    · rcases Nat.lt_or_ge b 12 with q | q
      · rw [h.low b q] at q2; cases q2
      · exact q
    · rw [(h.data j hj b hm).2.2] at q2
      cases q2
  have hsplit : (F.ino i).blk.take (need s) ++ (F.ino i).blk.drop (need s) = (F.ino i).blk := List.take_append_drop _ _
  have hnd := h.nd i hi
  rw [← hsplit, List.nodup_append] at hnd
  obtain ⟨n1, n2, n3⟩ := hnd
  have hlen : ((F.ino i).blk.take (need s)).length + (grow F.n F.bw (need s - (F.ino i).blk.length)).1.length = need s := by
    rw [g1, List.length_take]
    omega
  refine h.put hi hu k1 ⟨?_, sized_byte (h.byte i hi) s, h.num i hi, ?_, ?_, ?_⟩ ?_ ?_ ?_
  · show (sized _ _).length ≤ 192
    rw [sized_len]; exact hs
  · show (newBlk F i s).length = need (sized _ _).length
    rw [sized_len]
    unfold newBlk
    rw [List.length_append, hlen]
  · intro b hb
    rcases List.mem_append.1 hb with hb | hb
    · obtain ⟨q1, q2, q3⟩ := h.data i hi b (List.mem_of_mem_take hb)
      refine ⟨q1, q2, ?_⟩
      rw [hbt, if_neg (fun hm => n3 b hb b hm rfl)]
      split
      · rfl
      · exact q3
    · obtain ⟨q1, q2, q3⟩ := hnew b hb
      refine ⟨q1, q2, ?_⟩
      rw [hbt, if_neg (fun hm => q3 i hi (List.mem_of_mem_drop hm)), if_pos hb]
  · show (newBlk F i s).Nodup
    unfold newBlk
    rw [List.nodup_append]
    refine ⟨n1, g4, fun a ha b hb e => ?_⟩
    subst e
    exact (hnew a hb).2.2 i hi (List.mem_of_mem_take ha)
  · intro b hb
    rw [hbt, if_neg (fun hm => by have := (h.data i hi b (List.mem_of_mem_drop hm)).1; omega)]
    split
    · rfl
    · exact h.low b hb
  · intro j hj hne b hb
    have hni : b ∉ (F.ino i).blk := fun hm => hne (h.one j i hj hi b hb hm)
    constructor
    · rw [hbt, if_neg (fun hm => hni (List.mem_of_mem_drop hm))]
      split
      · rfl
      · exact (h.data j hj b hb).2.2
    · intro hm
      rcases List.mem_append.1 hm with hm | hm
      · exact hni (List.mem_of_mem_take hm)
      · exact (hnew b hm).2.2 j hj hb
  · intro b h1 h2 h3
    rw [hbt] at h3
    by_cases q : b ∈ (F.ino i).blk.drop (need s)
    · rw [if_pos q] at h3; cases h3
    · rw [if_neg q] at h3
      by_cases q2 : b ∈ (grow F.n F.bw (need s - (F.ino i).blk.length)).1
      · exact Or.inl (List.mem_append_right _ q2)
      · rw [if_neg q2] at h3
        obtain ⟨j, hj, hm⟩ := h.whose b h1 h2 h3
        by_cases e : j = i
        · left
          rw [e, ← hsplit] at hm
          rcases List.mem_append.1 hm with hm | hm
          · exact List.mem_append_left _ hm
          · exact absurd hm q
        · exact Or.inr ⟨j, hj, e, hm⟩
/-- Bytes are laid over a text. -/
def patch (t : List Int) (o : Nat) (d : List Int) : List Int := t.take o ++ d ++ t.drop (o + d.length)
theorem patch_len {t : List Int} {o : Nat} {d : List Int} (h : o + d.length ≤ t.length) : (patch t o d).length = t.length := by
  simp [patch]
  omega
def writeF (F : FS) (i o : Nat) (d : List Int) : FS :=
  let G := resizeF F i (max (F.ino i).txt.length (o + d.length))
  G.put i ⟨(G.ino i).kind, (G.ino i).links, patch (G.ino i).txt o d, (G.ino i).blk⟩ G.bw
/-- An inode's text is laid anew; its length stays. -/
theorem FInv.text {F : FS} (h : FInv F) {i : Nat} (hi : i < 32) (hu : Bi.bt F.iw i = true) {t : List Int} (hl : t.length = (F.ino i).txt.length) (hb : ∀ y ∈ t, 0 ≤ y ∧ y < 256) : FInv (F.put i ⟨(F.ino i).kind, (F.ino i).links, t, (F.ino i).blk⟩ F.bw) := by
  have ok := h.ok hi
  refine h.put hi hu h.bw ⟨by show t.length ≤ 192; rw [hl]; exact ok.max, hb, ok.num, by show _ = need t.length; rw [hl]; exact ok.len, ok.data, ok.nd⟩ h.low (fun j hj hne b hb => ⟨(h.data j hj b hb).2.2, fun hm => hne (h.one j i hj hi b hb hm)⟩) (fun b h1 h2 h3 => ?_)
  obtain ⟨j, hj, hm⟩ := h.whose b h1 h2 h3
  by_cases e : j = i
  · rw [e] at hm; exact Or.inl hm
  · exact Or.inr ⟨j, hj, e, hm⟩
theorem FInv.write {F : FS} (h : FInv F) {i o : Nat} {d : List Int} (hi : i < 32) (hu : Bi.bt F.iw i = true) (hs : o + d.length ≤ 192) (hd : ∀ y ∈ d, 0 ≤ y ∧ y < 256) (hr : roomB F i (Max.max (F.ino i).txt.length (o + d.length)) = true) : FInv (writeF F i o d) := by
  have hG := h.resize hi hu (s := Max.max (F.ino i).txt.length (o + d.length)) (by have := h.max i hi; omega) hr
  have hl : ((resizeF F i (Max.max (F.ino i).txt.length (o + d.length))).ino i).txt.length = Max.max (F.ino i).txt.length (o + d.length) := by
    unfold resizeF
    rw [FS.put_same]
    exact sized_len _ _
  refine hG.text hi hu (patch_len (by rw [hl]; omega)) ?_
  intro y hy
  rcases List.mem_append.1 hy with hy | hy
  · rcases List.mem_append.1 hy with hy | hy
    · exact hG.byte i hi y (List.mem_of_mem_take hy)
    · exact hd y hy
  · exact hG.byte i hi y (List.mem_of_mem_drop hy)
/-- An inode comes into use. -/
def allocF (F : FS) (r : Nat) (kind : Int) : FS := ⟨F.n, Bi.mkW F.iw r true, F.bw, fun j => if j = r then ⟨kind, 0, [], []⟩ else F.ino j⟩
theorem FInv.alloc {F : FS} (h : FInv F) {r : Nat} (hr : r < 32) (hf : Bi.bt F.iw r = false) {kind : Int} (hk : 0 ≤ kind ∧ kind < 9223372036854775808) : FInv (allocF F r kind) := by
  have h0 := h.none r hr hf
  have hbt := fun j => Bi.bt_mkW F.iw r j true (h.iw.at hr)
  have hb : ∀ j, ((allocF F r kind).ino j).blk = (F.ino j).blk := by
    intro j
    show (if j = r then (⟨kind, 0, [], []⟩ : Ino) else F.ino j).blk = _
    split
    · rename_i e
      rw [e, h0]
      rfl
    · rfl
  have ht : ∀ j, ((allocF F r kind).ino j).txt = (F.ino j).txt := by
    intro j
    show (if j = r then (⟨kind, 0, [], []⟩ : Ino) else F.ino j).txt = _
    split
    · rename_i e
      rw [e, h0]
      rfl
    · rfl
  refine ⟨h.n1, h.n2, h.iw.mark hr true, h.bw, h.low, ?_, fun j hj hn => ?_, fun j hj => by rw [ht]; exact h.max j hj, fun j hj => by rw [ht]; exact h.byte j hj, fun j hj => ?_, fun j hj => by rw [hb, ht]; exact h.len j hj, fun j hj => by rw [hb]; exact h.data j hj, fun j k h1 h2 b q1 q2 => ?_, fun j hj => by rw [hb]; exact h.nd j hj, fun b h1 h2 h3 => ?_⟩
  · show Bi.bt (Bi.mkW F.iw r true) 0 = true
    rw [hbt]
    split
    · rfl
    · exact h.root
  · have hn' : Bi.bt (Bi.mkW F.iw r true) j = false := hn
    rw [hbt] at hn'
    split at hn'
    · cases hn'
    · rename_i e
      show (if j = r then _ else F.ino j) = _
      rw [if_neg e]
      exact h.none j hj hn'
  · show 0 ≤ (if j = r then (⟨kind, 0, [], []⟩ : Ino) else F.ino j).kind ∧ _
    by_cases e : j = r
    · have e1 : (allocF F r kind).ino j = ⟨kind, 0, [], []⟩ := if_pos e
      rw [e1]
      exact ⟨by rw [if_pos e]; exact hk.1, hk.2, by show (0 : Int) ≤ 0; omega, by show (0 : Int) < _; omega⟩
    · have e1 : (allocF F r kind).ino j = F.ino j := if_neg e
      rw [e1]
      exact ⟨by rw [if_neg e]; exact (h.num j hj).1, (h.num j hj).2⟩
  · rw [hb] at q1 q2
    exact h.one j k h1 h2 b q1 q2
  · obtain ⟨j, hj, hm⟩ := h.whose b h1 h2 h3
    exact ⟨j, hj, by rw [hb]; exact hm⟩
/-- An inode goes out of use; its blocks do. -/
def freeF (F : FS) (i : Nat) : FS := ⟨F.n, Bi.mkW F.iw i false, (resizeF F i 0).bw, fun j => if j = i then Ino.no else F.ino j⟩
theorem FInv.free {F : FS} (h : FInv F) {i : Nat} (hi : i < 32) (h0 : i ≠ 0) (hu : Bi.bt F.iw i = true) : FInv (freeF F i) := by
  have hG := h.resize hi hu (s := 0) (by omega) (by unfold roomB need; simp)
  have hbt := fun j => Bi.bt_mkW F.iw i j false (h.iw.at hi)
  have hnb : newBlk F i 0 = [] := by
    have : need 0 = 0 := rfl
    unfold newBlk
    rw [this, Nat.zero_sub]
    rfl
  have hb : ∀ j, ((freeF F i).ino j).blk = ((resizeF F i 0).ino j).blk := by
    intro j
    show (if j = i then Ino.no else F.ino j).blk = (if j = i then (⟨_, _, _, newBlk F i 0⟩ : Ino) else F.ino j).blk
    split
    · rw [hnb]; rfl
    · rfl
  have ht : ∀ j, ((freeF F i).ino j).txt = ((resizeF F i 0).ino j).txt := by
    intro j
    show (if j = i then Ino.no else F.ino j).txt = (if j = i then (⟨_, _, sized _ 0, newBlk F i 0⟩ : Ino) else F.ino j).txt
    split
    · simp [Ino.no, sized]
    · rfl
  refine ⟨h.n1, h.n2, h.iw.mark hi false, hG.bw, hG.low, ?_, fun j hj hn => ?_, fun j hj => by rw [ht]; exact hG.max j hj, fun j hj => by rw [ht]; exact hG.byte j hj, fun j hj => ?_, fun j hj => by rw [hb, ht]; exact hG.len j hj, fun j hj => by rw [hb]; exact hG.data j hj, fun j k h1 h2 b q1 q2 => ?_, fun j hj => by rw [hb]; exact hG.nd j hj, fun b h1 h2 h3 => ?_⟩
  · show Bi.bt (Bi.mkW F.iw i false) 0 = true
    rw [hbt, if_neg (fun e => h0 e.symm)]
    exact h.root
  · have hn' : Bi.bt (Bi.mkW F.iw i false) j = false := hn
    show (if j = i then _ else F.ino j) = _
    by_cases e : j = i
    · rw [if_pos e]
    · rw [hbt, if_neg e] at hn'
      rw [if_neg e]
      exact h.none j hj hn'
  · by_cases e : j = i
    · have e1 : (freeF F i).ino j = Ino.no := if_pos e
      rw [e1]
      decide
    · have e1 : (freeF F i).ino j = F.ino j := if_neg e
      rw [e1]
      exact h.num j hj
  · rw [hb] at q1 q2
    exact hG.one j k h1 h2 b q1 q2
  · obtain ⟨j, hj, hm⟩ := hG.whose b h1 h2 h3
    exact ⟨j, hj, by rw [hb]; exact hm⟩
end Go.Proofs.Ytinjllnoonbjmaa
