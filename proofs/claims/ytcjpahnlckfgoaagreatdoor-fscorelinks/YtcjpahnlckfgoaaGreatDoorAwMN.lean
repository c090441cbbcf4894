/- Plain checks of a file system; chapter 17's examples, as plain data. -/
/- The reference's Nodes. -/
import Derived.Test.YtcjpahnlckfgoaaGreatDoorFsO
import Derived.Test.YtcjpahnlckfgoaaGreatDoorTrDE
import Derived.BigQuiet
namespace Go.Proofs.YtcjpahnlckfgoaaGreatDoor
open Go.RowKit
set_option linter.unusedVariables false
set_option maxRecDepth 100000

def entB (e : Ent) : Bool := decide (1 ≤ e.name.length) && decide (e.name.length ≤ 8) && !(e.name.any (· == 0)) && !(e.name.any (· == 47)) && decide (e.to < 32)
theorem entB_ok {e : Ent} (h : entB e = true) : EntOk e := by
  unfold entB at h
  simp only [Bool.and_eq_true, decide_eq_true_eq, Bool.not_eq_true', List.any_eq_false, beq_iff_eq] at h
  obtain ⟨⟨⟨⟨h1, h2⟩, h3⟩, h4⟩, h5⟩ := h
  exact ⟨h1, h2, h3, h4, h5⟩
def dirB (F : FS) (i : Nat) : Bool := if (F.ino i).kind = 2 then decide ((F.ino i).txt = nums (encsE (decE (byts (F.ino i).txt)))) && (decE (byts (F.ino i).txt)).all entB && decide (((decE (byts (F.ino i).txt)).map Ent.name).Nodup) && decide ((decE (byts (F.ino i).txt)).length < 20) else true
def allB (F : FS) : Bool := (List.range 32).all (dirB F)
theorem allB_at {F : FS} (h : allB F = true) {i : Nat} (hi : i < 32) (hk : (F.ino i).kind = 2) : DirAt F i (decE (byts (F.ino i).txt)) ∧ (decE (byts (F.ino i).txt)).length < 20 := by
  have := List.all_eq_true.1 h i (List.mem_range.2 hi)
  unfold dirB at this
  rw [if_pos hk] at this
  simp only [Bool.and_eq_true, decide_eq_true_eq] at this
  obtain ⟨⟨⟨h1, h2⟩, h3⟩, h4⟩ := this
  exact ⟨⟨hk, h1, fun e he => entB_ok (List.all_eq_true.1 h2 e he), h3, by omega⟩, h4⟩
theorem allB_all {F : FS} (h : allB F = true) : AllD F := fun i hi hk => ⟨_, (allB_at h hi hk).1⟩
theorem allB_len {F : FS} (h : allB F = true) (i : Int) : (dirL F i).length < 20 := by
  unfold dirL
  cases hd : isD F i with
  | false => simp
  | true =>
    rw [if_pos rfl]
    obtain ⟨k, hk, hk2, hkk⟩ := isD_nat hd
    subst hk
    rw [Int.toNat_natCast]
    exact (allB_at h hk2 hkk).2
def nmB (F : FS) (i : Nat) : Bool := decide (i ≠ 0) && Bi.bt F.iw i && decide (1 ≤ (F.ino i).links) && decide ((F.ino i).links ≤ 999)
theorem nmB_ok {F : FS} {i : Nat} (h : nmB F i = true) : Named F i := by
  unfold nmB at h
  simp only [Bool.and_eq_true, decide_eq_true_eq] at h
  obtain ⟨⟨⟨h1, h2⟩, h3⟩, h4⟩ := h
  exact ⟨h1, h2, h3, h4⟩
def awT : List Nd := [⟨[47, 100], true, []⟩, ⟨[47, 100, 47, 102], false, [120, 121]⟩]
def awT2 : List Nd := [⟨[47, 100], true, []⟩, ⟨[47, 103], false, [120, 121]⟩]
def awF0 : FS := (plS (F0 30) ⟨[47, 100], true, []⟩).2
def awF1 : FS := (plS awF0 ⟨[47, 100, 47, 102], false, [120, 121]⟩).2
def awF2 : FS := lnF awF1 [47, 100, 47, 102] [47, 103]
def awF3 : FS := ulF awF2 [47, 100, 47, 102] []
theorem aw1 : plR (F0 30) awT = (0, awF1) := by
  have h1 : (plS (F0 30) ⟨[47, 100], true, []⟩).1 = 0 := by kernel_rfl
  have h2 : (plS awF0 ⟨[47, 100, 47, 102], false, [120, 121]⟩).1 = 0 := by kernel_rfl
  show (if (plS (F0 30) ⟨[47, 100], true, []⟩).1 = 0 then (if (plS awF0 ⟨[47, 100, 47, 102], false, [120, 121]⟩).1 = 0 then ((0 : Int), awF1) else _) else _) = _
  rw [if_pos h1, if_pos h2]
theorem aw2 : ulR awF1 [47, 100] = 21 := by kernel_rfl
theorem aw2n : isD awF1 (walkR awF1 [47, 100]).1 = true := by kernel_rfl
theorem aw3 : lnR awF1 [47, 100, 47, 102] [47, 103] = 0 := by kernel_rfl
theorem aw3n : nmB awF1 (walkR awF1 [47, 100, 47, 102]).1.toNat = true := by kernel_rfl
theorem aw4 : ulR awF2 [47, 100, 47, 102] = 0 := by kernel_rfl
theorem aw4n : nmB awF2 (walkR awF2 [47, 100, 47, 102]).1.toNat = true := by kernel_rfl
theorem aw5 : rnR awF3 [47, 100] [47, 100, 47, 101] [] = 22 := by kernel_rfl
theorem aw5n : fdR awF3 (paR awF3 [47, 100, 47, 101]).1 (paR awF3 [47, 100, 47, 101]).2.1 = -1 := by kernel_rfl
theorem aw6 : (intoN 33 awF1 (fun _ => false) 0 []).map (·.1) = some awT := by kernel_rfl
theorem aw7 : (intoN 33 awF3 (fun _ => false) 0 []).map (·.1) = some awT2 := by kernel_rfl
theorem awA0 : allB awF0 = true := by kernel_rfl
theorem awA1 : allB awF1 = true := by kernel_rfl
theorem awA2 : allB awF2 = true := by kernel_rfl
theorem awA3 : allB awF3 = true := by kernel_rfl
theorem awD2 : isD awF1 0 = true ∧ isD awF2 0 = true := ⟨by kernel_rfl, by kernel_rfl⟩
/-- The states between, as its tree is made. -/
def awP (F : FS) (l : List Nd) : Prop := (F = F0 30 ∧ l = awT) ∨ (F = awF0 ∧ l = awT.drop 1) ∨ (F = awF1 ∧ l = [])
theorem awPl : PlI awP where
  all := fun F l h _ => by
    rcases h with ⟨rfl, -⟩ | ⟨rfl, -⟩ | ⟨rfl, -⟩
    · exact allB_all (by kernel_rfl)
    · exact allB_all awA0
    · exact allB_all awA1
  cr := fun F x l h _ hx hc => by
    rcases h with ⟨rfl, e⟩ | ⟨rfl, e⟩ | ⟨rfl, e⟩
    · simp only [awT, List.cons.injEq] at e
      rw [e.1] at hx
      cases hx
    · simp only [awT, List.drop_succ_cons, List.drop_zero, List.cons.injEq] at e
      rw [e.1]
      exact ⟨2, by kernel_rfl, by omega, by kernel_rfl⟩
    · cases e
  step := fun F x l h _ _ => by
    rcases h with ⟨rfl, e⟩ | ⟨rfl, e⟩ | ⟨rfl, e⟩
    · simp only [awT, List.cons.injEq] at e
      rw [e.1]
      exact Or.inr (Or.inl ⟨rfl, e.2⟩)
    · simp only [awT, List.drop_succ_cons, List.drop_zero, List.cons.injEq] at e
      rw [e.1]
      exact Or.inr (Or.inr ⟨rfl, e.2⟩)
    · cases e
end Go.Proofs.YtcjpahnlckfgoaaGreatDoor

namespace Go.Proofs.YtcjpahnlckfgoaaGreatDoor
open Go.RowKit
set_option linter.unusedVariables false

section
variable {w : World}
theorem drewN_heap (w : World) (q : Nat) : (w.drewN q).heap = w.heap := by
  induction q generalizing w with
  | zero => rfl
  | succ q ih => exact ih _
theorem NdIn.drewN {v : Value} {l : List Nd} (h : NdIn w v l) (q : Nat) : NdIn (w.drewN q) v l := by
  obtain ⟨a, cap, e, h⟩ := h
  refine ⟨a, cap, e, fun hl => ?_⟩
  obtain ⟨g, off, cur, fz, e1, e2, e3⟩ := h hl
  exact ⟨g, off, cur, fz, e1, by rw [drewN_heap]; exact e2, e3⟩
set_option maxHeartbeats 1000000 in
set_option maxRecDepth 100000 in
theorem nodes_same {u v : Value} {l : List Nd} (hu : NdIn w u l) (hv : NdIn w v l) (hl : l.length ≤ 10000) :
    Calls Tryz.prog 12 #[u, v] w fun e w' => e = .returned (.bool true) ∧ ∃ q, w' = w.drewN q := by
  obtain ⟨a, cap, hua, -⟩ := id hu
  obtain ⟨b, cap2, hva, -⟩ := id hv
  subst hua
  subst hva
  obtain ⟨N, hN⟩ : ∃ N, N = l.length := ⟨_, rfl⟩
  rw [← hN] at hl hu hv ⊢
  have HN : Hid (N = l.length) := hN
  have HU : Hid (NdIn w (.slice a N cap) l) := hu
  have HV : Hid (NdIn w (.slice b N cap2) l) := hv
  have hnn : ((N : Int) != (N : Int)) = false := by simp
  clear hu hv hN
  go_enter Tryz.func12, Tryz.ntmps12
  go_wp2
  go_loopw [5] (fun s wr => ∃ (k : Nat), s = .int .i64 k ∧ k ≤ N ∧ Hid (∃ q, wr = w.drewN q)) (fun s _ => N - (RowKit.intOf s).toNat)
  case atStart => exact ⟨0, rfl, by omega, 0, rfl⟩
  case round =>
    obtain ⟨k, rfl, hk, HQ⟩ := hrel
    by_cases hlt : k < N
    · have hkl : k < l.length := by rw [← HN.out]; exact hlt
      obtain ⟨q, hq⟩ := HQ.out
      obtain ⟨x, hx⟩ : ∃ x, l[k]? = some x := ⟨l[k], List.getElem?_eq_getElem hkl⟩
      have hu2 := HU.out.drewN q
      have hv2 := HV.out.drewN q
      rw [← hq] at hu2 hv2
      obtain ⟨g, off, rfl, c0, c1, c2⟩ := hu2.at hx
      obtain ⟨g', off', rfl, d0, d1, d2⟩ := hv2.at hx
      have hint : (k : Int) < (N : Int) := by omega
      have Hq : Hid (wr = w.drewN q) := hq
      clear hu2 hv2 hq hx HQ
      obtain ⟨xp, xd, xs⟩ := x
      dsimp only at *
      go_wp2
      go_quiet (fail)
      have HQ2 : Hid (∃ q, wr.drewN nq = w.drewN q) := by
        rw [Hq.out]
        exact ⟨q + nq, World.drewN_drewN _ _ _⟩
      clear c0 c1 c2 d0 d1 d2
      generalize wr.drewN nq = wn at *
      go_wp2
      go_roundw
      case rel => exact ⟨k + 1, by go_num, by omega, HQ2⟩
      case measure => simp [RowKit.intOf]; omega
    · have hnl : ¬ (k : Int) < (N : Int) := by omega
      clear HU HV
      go_wp2
      go_ret
      exact ⟨rfl, HQ.out⟩
end
end Go.Proofs.YtcjpahnlckfgoaaGreatDoor
