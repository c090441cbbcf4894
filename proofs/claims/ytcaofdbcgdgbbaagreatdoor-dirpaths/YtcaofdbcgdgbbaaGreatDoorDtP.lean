/- Paths of directories, each in the one ahead; texts that came in. -/
import Derived.Test.YtcaofdbcgdgbbaaGreatDoorDtJ
import Derived.Test.YtcaofdbcgdgbbaaGreatDoorRtA
namespace Go.Proofs.YtcaofdbcgdgbbaaGreatDoor
open Go.ChangeShapes Go.WideShapes Go.ChangeAt Go.RowKit Go.Lib
set_option linter.unusedVariables false

/-- Texts that came in. -/
def TxIn (w : World) (a0 : Option Addr) (len : Nat) : Prop := ∀ j, j < len → ∃ gb off t, a0 = some ⟨gb, off, none⟩ ∧ w.cell? ⟨gb, off + j, none⟩ = some (tx t) ∧ t.length ≤ 9223372036854775807
theorem TxIn.below {w w' : World} {a0 : Option Addr} {len : Nat} (h : TxIn w a0 len) (hb : Below w.heap.size w w') : TxIn w' a0 len := by
  intro j hj
  obtain ⟨gb, off, t, e, hc, hl⟩ := h j hj
  exact ⟨gb, off, t, e, (hb.cell (cell_lt hc)).trans hc, hl⟩
theorem strKinds : kindsOf Tryz.prog 9 9 = some [CK.s] := by kernel_rfl
theorem strSize : Tryz.prog.cellsOf 9 = ([CK.s] : List CK).length := by kernel_rfl
theorem text_of (s : ByteArray) : ∃ l : List UInt8, s = ⟨l.toArray⟩ ∧ s.size = l.length := ⟨s.data.toList, by simp, by show s.data.size = s.data.toList.length; simp⟩
theorem texts_in {H : Type} {enc : TypeId × Value → H} {w : World} {base : Nat} {held : Bool} {n : Nat} {a : Option Addr} {len cap : Nat} {y : DataW H × List MemPlace} (h : DataW.trod enc Tryz.prog w base (fun _ => true) held n 22 [.slice a len cap] = some y) : len ≤ 9223372036854775807 ∧ TxIn w a len := by
  obtain ⟨hl, hc⟩ := slice_fits (l := [CK.s]) Tryz.underlying22 strKinds (by simp) strSize h
  refine ⟨hl, fun j hj => ?_⟩
  obtain ⟨gb, off, cs, ea, hfit, hcell⟩ := hc j hj
  obtain ⟨_, _, rfl, ⟨s, rfl, hs⟩, rfl⟩ := hfit
  obtain ⟨t, rfl, ht⟩ := text_of s
  refine ⟨gb, off, t, ea, ?_, by unfold maxLen at hs; omega⟩
  have := hcell 0 _ rfl
  simpa using this
/-- Directories 0, 1, 2 .., each with the next one's name alone, the last one empty. -/
structure PwAt (F : FS) (L : List (List UInt8 × Bool)) : Prop where
  iw : ∀ j, j < 32 → Bi.bt F.iw j = decide (j ≤ L.length)
  n : F.n = 40
  free : Bi.cntF (Bi.bt F.bw) F.n + L.length = 28
  ent : ∀ j x, L[j]? = some x → DirAt F j [⟨x.1, j + 1⟩]
  last : DirAt F L.length []
  name : ∀ x ∈ L, isName x.1 = true
theorem pw0 : PwAt (F0 40) [] := ⟨by decide +kernel, rfl, by decide +kernel, fun j x h => by simp at h, ⟨rfl, rfl, (fun e he => by cases he), List.nodup_nil, by simp⟩, (fun x hx => by cases hx)⟩
theorem lowN_is {f : Nat → Bool} {n k : Nat} (hk : k < n) (h0 : f k = false) (h1 : ∀ j, j < k → f j = true) : lowN f n = k := by
  rcases Nat.lt_trichotomy (lowN f n) k with q | q | q
  · have := (lowN_hit (f := f) (n := n) (by omega)).1
    rw [h1 _ q] at this
    cases this
  · exact q
  · rcases Nat.lt_or_ge (lowN f n) n with z | z
    · have := (lowN_hit z).2 k q
      rw [h0] at this
      cases this
    · have := lowN_none (f := f) (n := n) (by have := lowN_le f n; omega) k hk
      rw [h0] at this
      cases this
section
variable {F : FS} {L : List (List UInt8 × Bool)}
theorem PwAt.low (h : PwAt F L) (hL : L.length < 4) : alN F = L.length + 1 := lowN_is (by omega) (by rw [h.iw _ (by omega)]; simp) (fun j hj => by rw [h.iw j (by omega)]; simp; omega)
/-- One directory further. -/
theorem PwAt.step (h : PwAt F L) (hF : FInv F) (hA : AllD F) (hL : L.length < 4) {s : List UInt8} (hs : isName s = true) (two : Bool) : alI F = ((L.length + 1 : Nat) : Int) ∧ alR F = 0 ∧ adR (alF F 2) (L.length : Int) s ((L.length + 1 : Nat) : Int) = 0 ∧ PwAt (adF (alF F 2) (L.length : Int) s ((L.length + 1 : Nat) : Int)) (L ++ [(s, two)]) := by
  have hlow := h.low hL
  have e1 : alF F 2 = allocF F (L.length + 1) 2 := by unfold alF; rw [hlow, if_pos (by omega)]
  have hfree : Bi.bt F.iw (L.length + 1) = false := by rw [h.iw _ (by omega)]; simp
  have hF1 : FInv (alF F 2) := by rw [e1]; exact hF.alloc (by omega) hfree ⟨by omega, by omega⟩
  have hA1 : AllD (alF F 2) := hA.al 2
  have hio : ∀ j, j ≠ L.length + 1 → (alF F 2).ino j = F.ino j := fun j hj => by rw [e1]; exact if_neg hj
  have hin : (alF F 2).ino (L.length + 1) = ⟨2, 0, [], []⟩ := by rw [e1]; exact if_pos rfl
  have hbw : (alF F 2).bw = F.bw ∧ (alF F 2).n = F.n := by rw [e1]; exact ⟨rfl, rfl⟩
  have hbt : ∀ j, j < 32 → Bi.bt (alF F 2).iw j = decide (j ≤ L.length + 1) := fun j hj => by
    rw [e1]
    show Bi.bt (Bi.mkW F.iw (L.length + 1) true) j = _
    rw [Bi.bt_mkW _ _ _ _ (hF.iw.at (by omega : L.length + 1 < 32)), h.iw j hj]
    by_cases q : j = L.length + 1
    · rw [if_pos q, decide_eq_true (by omega)]
    · rw [if_neg q]
      by_cases q2 : j ≤ L.length
      · rw [decide_eq_true q2, decide_eq_true (by omega)]
      · rw [decide_eq_false q2, decide_eq_false (by omega)]
  have hd : DirAt (alF F 2) L.length [] := ⟨by rw [hio _ (by omega)]; exact h.last.kind, by rw [hio _ (by omega)]; exact h.last.txt, h.last.ok, h.last.nd, h.last.most⟩
  have hok := ent_ok hs (by omega : L.length + 1 < 32)
  have h9 := encE_len hok
  have ht0 : ((alF F 2).ino L.length).txt.length = 0 := by rw [hd.len]; rfl
  have hb0 : ((alF F 2).ino L.length).blk.length = 0 := by rw [hF1.len _ (by omega), ht0]; rfl
  have hroom : roomB (alF F 2) L.length 9 = true := by
    unfold roomB
    refine decide_eq_true ?_
    rw [hb0, hbw.1, hbw.2]
    have := h.free
    have : need 9 = 1 := rfl
    omega
  have hne : encE ⟨s, L.length + 1⟩ ≠ [] := fun q => by rw [q] at h9; simp at h9
  have hw := wr_yes (alF F 2) L.length 0 (encE ⟨s, L.length + 1⟩) (by omega) hne (by rw [ht0, h9]; exact hroom)
  have hisd : isD (alF F 2) (L.length : Int) = true := by
    unfold isD
    rw [isI_nat (by omega), Int.toNat_natCast, hd.kind]
    rfl
  have hlist := hd.list (by omega : L.length < 32)
  have h0 : adR (alF F 2) (L.length : Int) s ((L.length + 1 : Nat) : Int) = 0 := by
    unfold adR
    rw [hisd, hs, isI_nat (by omega), if_neg (by simp), if_neg (by simp)]
    unfold fdR
    rw [hlist, if_neg (show ¬ (0 : Int) ≤ findE [] s by show ¬ (0 : Int) ≤ -1; omega), if_neg (by simp), Int.toNat_natCast, adB_enc]
    show (if wrR (alF F 2) L.length ((0 : Nat) : Int) (encE ⟨s, L.length + 1⟩) = 0 then 0 else 28) = _
    rw [hw.1]
    rfl
  refine ⟨by unfold alI; rw [hlow, if_pos (by omega)], by unfold alR; rw [hlow, if_pos (by omega)], h0, ?_⟩
  obtain ⟨k, t', l', q1, hk, q2, ht', hl', q3, q4, q5⟩ := add_ok hF1 hA1 h0
  have ek : k = L.length := by omega
  have et : t' = L.length + 1 := by omega
  subst ek et
  have el : l' = [] := by rw [← hl'.list hk]; exact hlist
  subst el
  have hadF := q3
  rw [q3] at q4 ⊢
  have htl : (((alF F 2).ino L.length).txt ++ nums (encE ⟨s, L.length + 1⟩)).length = 9 := by rw [List.length_append, ht0, nums_len, h9]
  generalize ((alF F 2).ino L.length).txt ++ nums (encE ⟨s, L.length + 1⟩) = T at *
  have hlen : (L ++ [(s, two)]).length = L.length + 1 := by simp
  refine ⟨fun j hj => ?_, ?_, ?_, fun j x hx => ?_, ?_, fun x hx => ?_⟩
  · rw [hlen]
    exact hbt j hj
  · show (alF F 2).n = 40
    rw [hbw.2]
    exact h.n
  · rw [hlen]
    have hc := cnt_resize hF1 (i := L.length) (s := 9) (by omega) hroom
    rw [hb0, hbw.1, hbw.2] at hc
    have hc' : Bi.cntF (Bi.bt (newBw (alF F 2) L.length 9)) F.n + need 9 = Bi.cntF (Bi.bt F.bw) F.n + 0 := hc
    show Bi.cntF (Bi.bt (newBw (alF F 2) L.length T.length)) (alF F 2).n + (L.length + 1) = 28
    rw [htl, hbw.2]
    have := h.free
    have : need 9 = 1 := rfl
    omega
  · rcases Nat.lt_or_ge j L.length with q | q
    · rw [List.getElem?_append_left q] at hx
      have hj := h.ent j x hx
      have hj1 : DirAt (alF F 2) j [⟨x.1, j + 1⟩] := ⟨by rw [hio _ (by omega)]; exact hj.kind, by rw [hio _ (by omega)]; exact hj.txt, hj.ok, hj.nd, hj.most⟩
      exact hj1.other T (by omega)
    · rw [List.getElem?_append_right q] at hx
      have hj0 : j = L.length := by
        have := (List.getElem?_eq_some_iff.1 hx).1
        simp at this
        omega
      subst hj0
      simp at hx
      subst hx
      exact q4
  · rw [hlen]
    have hl1 : DirAt (alF F 2) (L.length + 1) [] := ⟨by rw [hin], by rw [hin]; rfl, (fun e he => by cases he), List.nodup_nil, by simp⟩
    exact hl1.other T (by omega)
  · rcases List.mem_append.1 hx with q | q
    · exact h.name x q
    · simp at q
      subst q
      exact hs
theorem PwAt.go (h : PwAt F L) (hL : L.length ≤ 4) : ∀ (k j : Nat), j + k = L.length → wkR F (j : Int) ((L.drop j).map Prod.fst) = ((L.length : Int), 0)
  | 0, j, e => by
    rw [List.drop_of_length_le (by omega)]
    show ((j : Int), (0 : Int)) = _
    rw [show j = L.length by omega]
  | k + 1, j, e => by
    have hj : j < L.length := by omega
    have hx : L[j]? = some L[j] := List.getElem?_eq_getElem hj
    have hd := h.ent j _ hx
    rw [List.drop_eq_getElem_cons hj, List.map_cons]
    have hisd : isD F (j : Int) = true := by
      unfold isD
      rw [isI_nat (by omega), Int.toNat_natCast, hd.kind]
      rfl
    have hfd : fdR F (j : Int) (L[j]).1 = ((j + 1 : Nat) : Int) := by
      unfold fdR
      rw [hd.list (by omega)]
      have := find_add (l := []) (s := (L[j]).1) (k := j + 1) rfl
      exact this
    show (if isD F (j : Int) = false then ((0 : Int), (20 : Int)) else if fdR F (j : Int) (L[j]).1 < 0 then (0, 2) else wkR F (fdR F (j : Int) (L[j]).1) ((L.drop (j + 1)).map Prod.fst)) = _
    rw [hisd, if_neg (by simp), hfd, if_neg (by omega)]
    exact PwAt.go h hL k (j + 1) (by omega)
theorem PwAt.walk (h : PwAt F L) (hL : L.length ≤ 4) (h0 : L ≠ []) (h32 : (pathP L).length ≤ 32) : walkR F (pathP L) = ((L.length : Int), 0) := by
  obtain ⟨q1, q2⟩ := path_split h.name h0 h32
  unfold walkR
  rw [q1, if_pos rfl, q2]
  exact h.go hL L.length 0 (by omega)
end
theorem path_snoc : ∀ (L : List (List UInt8 × Bool)) (s : List UInt8) (two : Bool), pathP (L ++ [(s, two)]) = pathP L ++ (47 :: ((if two then [47] else []) ++ s))
  | [], s, two => by simp [pathP]
  | (p, t) :: L, s, two => by
    show 47 :: ((if t then [47] else []) ++ p ++ pathP (L ++ [(s, two)])) = 47 :: ((if t then [47] else []) ++ p ++ pathP L) ++ _
    rw [path_snoc L s two]
    simp
theorem path_len : ∀ {L : List (List UInt8 × Bool)}, (∀ x ∈ L, isName x.1 = true) → (pathP L).length ≤ 10 * L.length
  | [], _ => Nat.le_refl _
  | (p, t) :: L, h => by
    have hp := (ent_ok (k := 0) (h (p, t) List.mem_cons_self) (by omega)).max
    have ih := path_len (L := L) (fun x hx => h x (List.mem_cons_of_mem _ hx))
    show (47 :: ((if t then [47] else []) ++ p ++ pathP L)).length ≤ _
    have : (if t then [(47 : UInt8)] else []).length ≤ 1 := by split <;> simp
    simp only [List.length_cons, List.length_append]
    dsimp only at hp
    omega
end Go.Proofs.YtcaofdbcgdgbbaaGreatDoor
