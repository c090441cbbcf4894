/- Files filled one after another and freed again: what is in use (plain). -/
import Derived.Test.YtinjllnoonbjmaaLwE
namespace Go.Proofs.Ytinjllnoonbjmaa
set_option linter.unusedVariables false

theorem cnt_congr {f g : Nat → Bool} : ∀ n, (∀ j, j < n → f j = g j) → Bi.cntF f n = Bi.cntF g n
  | 0, _ => rfl
  | n + 1, h => by
    show Bi.cntF f n + (if f n = true then 0 else 1) = Bi.cntF g n + (if g n = true then 0 else 1)
    rw [cnt_congr n (fun j hj => h j (by omega)), h n (by omega)]
/-- Inodes 0 to k are in use, or 0 and j + 1 to k. -/
structure Rst (F : FS) (n j k : Nat) : Prop where
  nn : F.n = n
  bits : ∀ i, i < 32 → Bi.bt F.iw i = decide (i = 0 ∨ (j < i ∧ i ≤ k))
  root : (F.ino 0).blk = []
theorem rst0 (n : Nat) : Rst (F0 n) n 0 0 := by
  refine ⟨rfl, fun i hi => ?_, rfl⟩
  have : ∀ i, i < 32 → Bi.bt [1] i = decide (i = 0 ∨ (0 < i ∧ i ≤ 0)) := by decide +kernel
  exact this i hi
theorem rst_low {F : FS} {n k : Nat} (R : Rst F n 0 k) (hk : k < 20) : alN F = k + 1 := by
  have hf : Bi.bt F.iw (k + 1) = false := by rw [R.bits _ (by omega)]; exact decide_eq_false (by omega)
  have hle := lowN_le (Bi.bt F.iw) 32
  unfold alN
  rcases Nat.lt_or_ge (lowN (Bi.bt F.iw) 32) 32 with h | h
  · obtain ⟨h1, h2⟩ := lowN_hit h
    generalize lowN (Bi.bt F.iw) 32 = q at *
    rw [R.bits q h] at h1
    have h3 := of_decide_eq_false h1
    rcases Nat.lt_or_ge (k + 1) q with e | e
    · rw [h2 _ e] at hf; cases hf
    · omega
  · rw [lowN_none (f := Bi.bt F.iw) (n := 32) (by omega) (k + 1) (by omega)] at hf
    cases hf
theorem rst_alloc {F : FS} {n k : Nat} (h : FInv F) (R : Rst F n 0 k) (hk : k < 20) : alR F = 0 ∧ alI F = ((k + 1 : Nat) : Int) ∧ alF F 1 = allocF F (k + 1) 1 ∧ Rst (allocF F (k + 1) 1) n 0 (k + 1) ∧ (allocF F (k + 1) 1).ino (k + 1) = ⟨1, 0, [], []⟩ ∧ Bi.bt (allocF F (k + 1) 1).iw (k + 1) = true := by
  have hl := rst_low R hk
  have hbt := fun j => Bi.bt_mkW F.iw (k + 1) j true (h.iw.at (by omega))
  refine ⟨?_, ?_, ?_, ⟨R.nn, fun i hi => ?_, ?_⟩, if_pos rfl, ?_⟩
  · unfold alR; rw [hl, if_pos (by omega)]
  · unfold alI; rw [hl, if_pos (by omega)]
  · unfold alF; rw [hl, if_pos (by omega)]
  · show Bi.bt (Bi.mkW F.iw (k + 1) true) i = _
    rw [hbt]
    by_cases e : i = k + 1
    · rw [if_pos e]; exact (decide_eq_true (by omega)).symm
    · rw [if_neg e, R.bits i hi]
      exact decide_eq_decide.2 (by omega)
  · show (if (0 : Nat) = k + 1 then (⟨1, 0, [], []⟩ : Ino) else F.ino 0).blk = []
    rw [if_neg (by omega)]
    exact R.root
  · show Bi.bt (Bi.mkW F.iw (k + 1) true) (k + 1) = true
    rw [hbt, if_pos rfl]
/-- What a first size does. -/
structure Fst (G G' : FS) (i : Nat) (bl : List Nat) : Prop where
  blk : (G'.ino i).blk = bl
  six : bl.length ≤ 6
  nd : bl.Nodup
  new : ∀ b ∈ bl, 12 ≤ b ∧ b < G.n ∧ Bi.bt G.bw b = false
  bits : ∀ b, Bi.bt G'.bw b = (Bi.bt G.bw b || decide (b ∈ bl))
theorem rst_first {G : FS} {n k s : Nat} (h : FInv G) (R : Rst G n 0 k) (i : Nat) (hi : i < 32) (hi0 : i ≠ 0) (hu : Bi.bt G.iw i = true) (hn : G.ino i = ⟨1, 0, [], []⟩) (hs : s ≤ 192) :
    rsR G i (s : Int) = (if need s ≤ Bi.cntF (Bi.bt G.bw) G.n then 0 else 28) ∧ Rst (rsF G i (s : Int)) n 0 k ∧ ∃ bl, Fst G (rsF G i (s : Int)) i bl := by
  have a1 : ¬ (s : Int) < 0 := by omega
  have a2 : ¬ 192 < (s : Int) := by omega
  have hroom : roomB G i s = decide (need s ≤ Bi.cntF (Bi.bt G.bw) G.n) := by unfold roomB; rw [hn]; rfl
  by_cases hr : need s ≤ Bi.cntF (Bi.bt G.bw) G.n
  · have hrm : roomB G i s = true := by rw [hroom]; exact decide_eq_true hr
    obtain ⟨q1, q2⟩ := rs_yes G i s hs hrm
    rw [q1, q2, if_pos hr]
    refine ⟨rfl, ⟨R.nn, R.bits, ?_⟩, ?_⟩
    · unfold resizeF
      rw [FS.put_other _ _ _ _ (Ne.symm hi0)]
      exact R.root
    · obtain ⟨g1, g2, g3, g4, g5, g6⟩ := grow_ok h.bw hr
      have e1 : newBlk G i s = (grow G.n G.bw (need s)).1 := by unfold newBlk; rw [hn]; simp
      have e2 : newBw G i s = (grow G.n G.bw (need s)).2 := by unfold newBw; rw [hn]; simp [back]
      refine ⟨(grow G.n G.bw (need s)).1, ?_, by rw [g1]; exact need_le hs, g4, fun b hb => ?_, fun b => ?_⟩
      · unfold resizeF
        rw [FS.put_same]
        exact e1
      · obtain ⟨p1, p2, _⟩ := g3 b hb
        refine ⟨?_, p1, p2⟩
        rcases Nat.lt_or_ge b 12 with q | q
        · rw [h.low b q] at p2; cases p2
        · exact q
      · show Bi.bt (newBw G i s) b = _
        rw [e2]
        by_cases q : b ∈ (grow G.n G.bw (need s)).1
        · rw [(g3 b q).2.2, decide_eq_true q, Bool.or_true]
        · rw [g5 b q, decide_eq_false q, Bool.or_false]
  · have hrm : ¬ roomB G i s = true := by rw [hroom, decide_eq_false hr]; simp
    unfold rsR rsF
    rw [if_neg a1, if_neg a1, if_neg a2, if_neg a2, Int.toNat_natCast, if_neg hrm, if_neg hrm, if_neg hr]
    exact ⟨rfl, R, [], by rw [hn], by simp, List.nodup_nil, (fun b hb => by cases hb), fun b => by simp⟩
theorem rst_free {F : FS} {n j k : Nat} (h : FInv F) (R : Rst F n j k) (hj : j < k) (hk : k ≤ 20) : Bi.bt F.iw (j + 1) = true ∧ Rst (freeF F (j + 1)) n (j + 1) k := by
  have hbt := fun i => Bi.bt_mkW F.iw (j + 1) i false (h.iw.at (by omega))
  refine ⟨by rw [R.bits _ (by omega)]; exact decide_eq_true (by omega), R.nn, fun i hi => ?_, ?_⟩
  · show Bi.bt (Bi.mkW F.iw (j + 1) false) i = _
    rw [hbt]
    by_cases e : i = j + 1
    · rw [if_pos e]; exact (decide_eq_false (by omega)).symm
    · rw [if_neg e, R.bits i hi]
      exact decide_eq_decide.2 (by omega)
  · show (if (0 : Nat) = j + 1 then Ino.no else F.ino 0).blk = []
    rw [if_neg (by omega)]
    exact R.root
theorem bt_4095 : ∀ b, 12 ≤ b → Bi.bt [4095] b = false := by
  intro b hb
  rcases Nat.lt_or_ge b 64 with h | h
  · have : ∀ b, b < 64 → 12 ≤ b → Bi.bt [4095] b = false := by decide +kernel
    exact this b h hb
  · exact Bi.bt_far _ _ (by simp; omega)
theorem rst_end {F : FS} {n k : Nat} (h : FInv F) (R : Rst F n k k) : Bi.cntF (Bi.bt F.iw) 32 = 31 ∧ Bi.cntF (Bi.bt F.bw) F.n = Bi.cntF (Bi.bt (F0 n).bw) (F0 n).n := by
  have hb0 : ∀ i, i < 32 → Bi.bt F.iw i = decide (i = 0) := fun i hi => by rw [R.bits i hi]; exact decide_eq_decide.2 (by omega)
  constructor
  · rw [cnt_congr 32 (g := fun i => decide (i = 0)) hb0]
    decide +kernel
  · show _ = Bi.cntF (Bi.bt [4095]) n
    rw [R.nn]
    refine cnt_congr n fun b hb => ?_
    rcases Nat.lt_or_ge b 12 with q | q
    · rw [h.low b q, k_low12 b q]
    · rw [bt_4095 b q]
      cases hu : Bi.bt F.bw b with
      | false => rfl
      | true =>
        obtain ⟨i, hi, hm⟩ := h.whose b q (by rw [R.nn]; exact hb) hu
        by_cases e : i = 0
        · rw [e, R.root] at hm; cases hm
        · have := h.none i hi (by rw [hb0 i hi]; exact decide_eq_false e)
          rw [this] at hm
          cases hm
/-- What was seen. -/
def seenF (F : FS) (j : Nat) : Bool := decide (12 ≤ j) && Bi.bt F.bw j
theorem seen_end {G G' : FS} {i : Nat} {bl : List Nat} (h : Fst G G' i bl) (j : Nat) : (seenF G j || decide (j ∈ bl)) = seenF G' j := by
  unfold seenF
  rw [h.bits j]
  by_cases q : j ∈ bl
  · rw [decide_eq_true q, Bool.or_true, Bool.or_true, decide_eq_true (h.new j q).1]
    rfl
  · rw [decide_eq_false q, Bool.or_false, Bool.or_false]
theorem seen_new {G G' : FS} {i : Nat} {bl : List Nat} (h : Fst G G' i bl) (j : Nat) (hj : j < bl.length) : (seenF G bl[j] || decide (bl[j] ∈ bl.take j)) = false := by
  have hb := h.new bl[j] (List.getElem_mem hj)
  have hn : bl[j] ∉ bl.take j := fun hm => by
    obtain ⟨p, hp, e⟩ := List.getElem_of_mem hm
    rw [List.getElem_take] at e
    have hp' : p < j := by rw [List.length_take] at hp; omega
    have := (List.getElem_inj h.nd).1 e
    omega
  unfold seenF
  rw [hb.2.2, decide_eq_false hn]
  simp
theorem row_blkF {x : Ino} {bl : List Nat} (h : x.blk = bl) (hl : bl.length ≤ 6) (j : Nat) (hj : j < 6) : x.row.getD (3 + j) 0 = ((bl.getD j 0 : Nat) : Int) := by
  unfold Ino.row
  rw [h]
  simp only [List.getD_eq_getElem?_getD, List.append_assoc]
  rw [List.getElem?_append_right (by simp), show 3 + j - ([x.kind, x.links, (x.txt.length : Int)]).length = j by simp]
  by_cases q : j < bl.length
  · rw [List.getElem?_append_left (by simp; exact q), List.getElem?_map, List.getElem?_eq_getElem q]
    rfl
  · rw [List.getElem?_append_right (by simp; omega), List.getElem?_replicate, List.getElem?_eq_none (show bl.length ≤ j by omega)]
    split <;> rfl
end Go.Proofs.Ytinjllnoonbjmaa
