/- A file system of 60 blocks with a file at most, plain: its shape. Names no program. -/
/- One file in the root, plain: paths, what is created, unlinked, closed. Names no program. -/
/- One file in the root, plain: unlinked, read, closed. Names no program. -/
/- A file system of 60 blocks with a file at most, plain: how many blocks are free; a file renamed within the root; what is told of one file. Names no program. -/
import Derived.Test.YtcjpahnlckfgoaaGreatDoorFsO
import Derived.Test.YtcjpahnlckfgoaaGreatDoorTrDE
namespace Go.Proofs.YtcjpahnlckfgoaaGreatDoor
open Go.RowKit
set_option linter.unusedVariables false

/-- The root has these entries, inode 1 is so, and there is nothing else. -/
structure Sh (F : FS) (l : List Ent) (iw : List Nat) (kd lk : Int) (t : List Int) : Prop where
  n : F.n = 60
  iw : F.iw = iw
  root : DirAt F 0 l
  kd : (F.ino 1).kind = kd
  lk : (F.ino 1).links = lk
  txt : (F.ino 1).txt = t
  no : ∀ j, 2 ≤ j → F.ino j = Ino.no
section
variable {F : FS} {l : List Ent} {iw : List Nat} {kd lk : Int} {t : List Int}
theorem sh0 : Sh (F0 60) [] [1] 0 0 [] := ⟨rfl, rfl, ⟨rfl, rfl, (fun x hx => by cases hx), List.nodup_nil, by simp⟩, rfl, rfl, rfl, fun j hj => by
  show (if j = 0 then (⟨2, 1, [], []⟩ : Ino) else Ino.no) = _
  rw [if_neg (by omega)]⟩
theorem Sh.isd (h : Sh F l iw kd lk t) (hk : kd ≠ 2) {i : Int} : isD F i = true ↔ i = 0 := by
  constructor
  · intro q
    obtain ⟨k, rfl, hk1, hk2⟩ := isD_nat q
    by_cases k0 : k = 0
    · omega
    · by_cases k1 : k = 1
      · rw [k1, h.kd] at hk2; exact absurd hk2 hk
      · rw [h.no k (by omega)] at hk2
        cases hk2
  · rintro rfl
    unfold isD
    rw [show isI 0 = true from rfl, show ((0 : Int).toNat) = 0 from rfl, h.root.kind]
    rfl
theorem Sh.isf (h : Sh F l iw kd lk t) (hk : kd ≠ 2) {i : Int} (hi : i ≠ 0) : isD F i = false := by
  cases q : isD F i with
  | false => rfl
  | true => exact absurd ((h.isd hk).1 q) hi
theorem Sh.all (h : Sh F l iw kd lk t) (hk : kd ≠ 2) : AllD F := fun i hi hkk => by
  by_cases k0 : i = 0
  · rw [k0]; exact ⟨l, h.root⟩
  · by_cases k1 : i = 1
    · rw [k1, h.kd] at hkk; exact absurd hkk hk
    · rw [h.no i (by omega)] at hkk
      cases hkk
theorem Sh.dir (h : Sh F l iw kd lk t) : dirL F 0 = l := h.root.list (by omega)
theorem Sh.dirs (h : Sh F l iw kd lk t) (hk : kd ≠ 2) (i : Int) : (dirL F i).length ≤ l.length := by
  by_cases q : i = 0
  · rw [q, h.dir]; exact Nat.le_refl _
  · unfold dirL
    rw [h.isf hk q]
    simp
theorem Sh.al (h : Sh F l [1] kd lk t) : alN F = 1 ∧ Sh (alF F 1) l [3] 1 0 [] := by
  have e1 : alN F = 1 := by unfold alN; rw [h.iw]; decide +kernel
  have e2 : alF F 1 = allocF F 1 1 := by unfold alF; rw [e1, if_pos (by omega)]
  have o : ∀ j, j ≠ 1 → (allocF F 1 1).ino j = F.ino j := fun j hj => if_neg hj
  have s : (allocF F 1 1).ino 1 = ⟨1, 0, [], []⟩ := rfl
  refine ⟨e1, ?_⟩
  rw [e2]
  refine ⟨h.n, ?_, ⟨by rw [o 0 (by omega)]; exact h.root.kind, by rw [o 0 (by omega)]; exact h.root.txt, h.root.ok, h.root.nd, h.root.most⟩, by rw [s], by rw [s], by rw [s], fun j hj => by rw [o j (by omega)]; exact h.no j hj⟩
  show Bi.mkW F.iw 1 true = _
  rw [h.iw]
  decide +kernel
theorem Sh.lkf (h : Sh F l iw kd lk t) (v : Int) : Sh (lkF F 1 v) l iw kd v t := by
  have o : ∀ j, j ≠ 1 → (lkF F 1 v).ino j = F.ino j := fun j hj => if_neg hj
  have s : (lkF F 1 v).ino 1 = ⟨(F.ino 1).kind, v, (F.ino 1).txt, (F.ino 1).blk⟩ := rfl
  exact ⟨h.n, h.iw, ⟨by rw [o 0 (by omega)]; exact h.root.kind, by rw [o 0 (by omega)]; exact h.root.txt, h.root.ok, h.root.nd, h.root.most⟩, by rw [s]; exact h.kd, by rw [s], by rw [s]; exact h.txt, fun j hj => by rw [o j (by omega)]; exact h.no j hj⟩
theorem Sh.lay0 (h : Sh F l iw kd lk t) {u : List Int} {l' : List Ent} (hd : DirAt (layT F 0 u) 0 l') : Sh (layT F 0 u) l' iw kd lk t := by
  have o : ∀ j, j ≠ 0 → (layT F 0 u).ino j = F.ino j := fun j hj => lay_other F 0 u hj
  exact ⟨h.n, h.iw, hd, by rw [o 1 (by omega)]; exact h.kd, by rw [o 1 (by omega)]; exact h.lk, by rw [o 1 (by omega)]; exact h.txt, fun j hj => by rw [o j (by omega)]; exact h.no j hj⟩
theorem Sh.lay1 (h : Sh F l iw kd lk t) (u : List Int) : Sh (layT F 1 u) l iw kd lk u := by
  have o : ∀ j, j ≠ 1 → (layT F 1 u).ino j = F.ino j := fun j hj => lay_other F 1 u hj
  exact ⟨h.n, h.iw, h.root.other u (by omega), by rw [lay_kind]; exact h.kd, by show ((layT F 1 u).ino 1).links = lk; unfold layT; rw [FS.put_same]; exact h.lk, lay_txt _ _ _, fun j hj => by rw [o j (by omega)]; exact h.no j hj⟩
theorem Sh.ad (h : Sh F l iw kd lk t) (hk : kd ≠ 2) (hF : FInv F) {s : List UInt8} (ha : adR F 0 s 1 = 0) : Sh (adF F 0 s 1) (l ++ [⟨s, 1⟩]) iw kd lk t := by
  obtain ⟨k, u, l', e1, e2, e3, e4, e5, e6, e7, e8⟩ := add_ok hF (h.all hk) ha
  have k0 : k = 0 := by omega
  have u1 : u = 1 := by omega
  subst k0
  subst u1
  have hl : l' = l := by rw [← e5.list e2, show ((0 : Nat) : Int) = 0 from rfl, h.dir]
  subst hl
  rw [e6] at e7 ⊢
  exact h.lay0 e7
theorem Sh.rm (h : Sh F l iw kd lk t) (hk : kd ≠ 2) (hF : FInv F) {s : List UInt8} (ha : rmR F 0 s = 0) : Sh (rmF F 0 s) (l.take (placeE l s) ++ l.drop (placeE l s + 1)) iw kd lk t := by
  obtain ⟨k, l', e1, e2, e3, e4, e5, e6, e7⟩ := rem_ok hF (h.all hk) ha
  have k0 : k = 0 := by omega
  subst k0
  have hl : l' = l := by rw [← e3.list e2, show ((0 : Nat) : Int) = 0 from rfl, h.dir]
  subst hl
  rw [e6] at e7 ⊢
  exact h.lay0 e7
theorem Sh.fr (h : Sh F l [3] kd lk t) : Sh (freeF F 1) l [1] 0 0 [] := by
  have o : ∀ j, j ≠ 1 → (freeF F 1).ino j = F.ino j := fun j hj => if_neg hj
  have s : (freeF F 1).ino 1 = Ino.no := rfl
  refine ⟨h.n, ?_, ⟨by rw [o 0 (by omega)]; exact h.root.kind, by rw [o 0 (by omega)]; exact h.root.txt, h.root.ok, h.root.nd, h.root.most⟩, by rw [s]; rfl, by rw [s]; rfl, by rw [s]; rfl, fun j hj => by rw [o j (by omega)]; exact h.no j hj⟩
  show Bi.mkW F.iw 1 false = _
  rw [h.iw]
  decide +kernel
/-- What is written into an empty file is its text. -/
theorem Sh.wr (h : Sh F l iw kd lk []) {b : List UInt8} (hw : wrR F 1 0 b = 0) : Sh (wrF F 1 0 b) l iw kd lk (nums b) ∧ b.length ≤ 192 := by
  unfold wrR at hw
  unfold wrF
  rw [if_neg (by omega)] at hw ⊢
  by_cases h1 : 192 < (0 : Int) + b.length
  · rw [if_pos h1] at hw; omega
  · rw [if_neg h1] at hw ⊢
    refine ⟨?_, by omega⟩
    by_cases h2 : b = []
    · rw [if_pos h2, h2]
      exact h
    · rw [if_neg h2] at hw ⊢
      by_cases h3 : roomB F 1 (max (F.ino 1).txt.length ((0 : Int).toNat + b.length)) = true
      · rw [if_pos h3, write_lay]
        have e : patch (sized (F.ino 1).txt (max (F.ino 1).txt.length ((0 : Int).toNat + (nums b).length))) (0 : Int).toNat (nums b) = nums b := by
          have := patch_end [] (nums b)
          rw [h.txt]
          exact this
        rw [e]
        exact h.lay1 _
      · rw [if_neg h3] at hw; omega
end
end Go.Proofs.YtcjpahnlckfgoaaGreatDoor

namespace Go.Proofs.YtcjpahnlckfgoaaGreatDoor
open Go.RowKit
set_option linter.unusedVariables false

section
variable {F : FS} {l : List Ent} {iw : List Nat} {kd lk : Int} {t : List Int}
theorem find_to {s : List UInt8} {k : Int} (h : findE l s = k) (hk : ¬ k < 0) : ∃ e ∈ l, (e.to : Int) = k := by
  unfold findE at h
  by_cases q : placeE l s < l.length
  · rw [if_pos q] at h
    refine ⟨l.getD (placeE l s) ⟨[], 0⟩, ?_, h⟩
    rw [List.getD_eq_getElem?_getD, List.getElem?_eq_getElem q]
    exact List.getElem_mem q
  · rw [if_neg q] at h
    omega
theorem pa_one {p s : List UInt8} (hs : splitR p = 0) (e : splitP p = [s]) (hd : isD F 0 = true) : paR F p = (0, s, 0) := by
  unfold paR
  rw [if_pos hs, e, if_neg (by simp)]
  show (if (0 : Int) = 0 then (if isD F 0 = true then ((0 : Int), s, (0 : Int)) else (0, [], 20)) else (0, [], 0)) = _
  rw [if_pos rfl, if_pos hd]
theorem Sh.pa (h : Sh F l iw kd lk t) (hk : kd ≠ 2) (hto : ∀ e ∈ l, e.to ≠ 0) {p : List UInt8} (hp : (paR F p).2.2 = 0) : ∃ s, splitR p = 0 ∧ splitP p = [s] ∧ paR F p = (0, s, 0) := by
  obtain ⟨hs, hne⟩ := pa_split hp
  have hd := pa_dir hp
  have d0 := (h.isd hk).1 hd
  have hwk : (wkR F 0 ((splitP p).take ((splitP p).length - 1))).2 = 0 ∧ (wkR F 0 ((splitP p).take ((splitP p).length - 1))).1 = 0 := by
    unfold paR at hp d0
    rw [if_pos hs, if_neg (by simpa using hne)] at hp d0
    by_cases q : (wkR F 0 ((splitP p).take ((splitP p).length - 1))).2 = 0
    · rw [if_pos q] at hp d0
      by_cases q2 : isD F (wkR F 0 ((splitP p).take ((splitP p).length - 1))).1 = true
      · rw [if_pos q2] at d0
        exact ⟨q, d0⟩
      · rw [if_neg q2] at hp; simp at hp
    · rw [if_neg q] at hp
      exact absurd hp q
  have hnil : (splitP p).take ((splitP p).length - 1) = [] := by
    generalize hts : (splitP p).take ((splitP p).length - 1) = ts at hwk
    cases ts with
    | nil => rfl
    | cons x xs =>
      have e : wkR F 0 (x :: xs) = (0, 0) := Prod.ext hwk.2 hwk.1
      obtain ⟨d, h1, h2, h3, h4⟩ := wk_last F (x :: xs) 0 0 e (by simp)
      have d0 := (h.isd hk).1 h2
      rw [d0] at h3
      unfold fdR at h3
      rw [h.dir] at h3
      obtain ⟨e, he, hz⟩ := find_to h3 (by omega)
      exact absurd (by omega) (hto e he)
  have hlen : (splitP p).length = 1 := by
    have hl := congrArg List.length hnil
    rw [List.length_take, List.length_nil] at hl
    have := List.length_pos_iff.2 hne
    omega
  obtain ⟨s, e⟩ := List.length_eq_one_iff.1 hlen
  exact ⟨s, hs, e, pa_one hs e ((h.isd hk).2 rfl)⟩
theorem place_one (s : List UInt8) (k : Nat) : placeE [⟨s, k⟩] s = 0 := by simp [placeE, List.findIdx_cons]
theorem find_one (s : List UInt8) (k : Nat) : findE [⟨s, k⟩] s = (k : Int) := by
  unfold findE
  rw [place_one, if_pos (by simp)]
  rfl
/-- A path of one part. -/
theorem Sh.one {s : List UInt8} (h : Sh F [⟨s, 1⟩] iw kd lk t) (hk : kd ≠ 2) {p : List UInt8} (h1 : splitR p = 0) (h2 : splitP p = [s]) : walkR F p = (1, 0) ∧ paR F p = (0, s, 0) := by
  have hf : fdR F 0 s = 1 := by unfold fdR; rw [h.dir, find_one]; rfl
  constructor
  · unfold walkR
    rw [if_pos h1, h2]
    show (if isD F 0 = false then ((0 : Int), (20 : Int)) else if fdR F 0 s < 0 then (0, 2) else (fdR F 0 s, 0)) = _
    rw [(h.isd hk).2 rfl, if_neg (by simp), hf, if_neg (by omega)]
  · exact pa_one h1 h2 ((h.isd hk).2 rfl)
end
/-- The first file that is created. -/
theorem cr_first {p : List UInt8} (hc : crR (F0 60) p = 0) : ∃ s, splitR p = 0 ∧ splitP p = [s] ∧ crI (F0 60) p = 1 ∧ Sh (crF (F0 60) p) [⟨s, 1⟩] [3] 1 1 [] := by
  unfold crR at hc
  by_cases hp : (paR (F0 60) p).2.2 = 0
  · rw [if_pos hp] at hc
    obtain ⟨s, h1, h2, h3⟩ := sh0.pa (by omega) (fun e he => by cases he) hp
    have hf : fdR (F0 60) 0 s = -1 := by unfold fdR; rw [sh0.dir]; rfl
    unfold crI crF
    rw [h3] at hc ⊢
    dsimp only at hc ⊢
    rw [hf, if_pos (by omega)] at hc ⊢
    rw [if_pos (by omega)]
    obtain ⟨a1, a2⟩ := sh0.al
    refine ⟨s, h1, h2, by rw [a1]; rfl, ?_⟩
    unfold bnR at hc
    have e0 : alR (F0 60) = 0 := by unfold alR; rw [a1]; rfl
    rw [e0, if_pos rfl] at hc
    have hI0 := f0_inv (n := 60) (by omega) (by omega)
    have e1 : alF (F0 60) 1 = allocF (F0 60) 1 1 := by unfold alF; rw [a1, if_pos (by omega)]
    have hI1 : FInv (alF (F0 60) 1) := by rw [e1]; exact hI0.alloc (by omega) (by decide +kernel) ⟨by omega, by omega⟩
    have hI2 : FInv (lkF (alF (F0 60) 1) 1 1) := hI1.lk (by omega) (by rw [a2.iw]; decide +kernel) (by omega) (by omega)
    have hS := a2.lkf 1
    have e2 : bnF1 (F0 60) 1 = lkF (alF (F0 60) 1) 1 1 := by unfold bnF1; rw [a1]
    unfold bnF
    rw [e2, a1] at hc ⊢
    by_cases q : adR (lkF (alF (F0 60) 1) 1 1) 0 s ((1 : Nat) : Int) = 0
    · have := hS.ad (by omega) hI2 (s := s) q
      exact this
    · rw [if_neg q] at hc; omega
  · rw [if_neg hp] at hc
    exact absurd hc hp
end Go.Proofs.YtcjpahnlckfgoaaGreatDoor

namespace Go.Proofs.YtcjpahnlckfgoaaGreatDoor
open Go.RowKit
set_option linter.unusedVariables false

section
variable {F : FS} {l : List Ent} {iw : List Nat} {kd lk : Int} {t : List Int} {s p : List UInt8}
theorem Sh.named (h : Sh F l [3] 1 lk t) (h1 : 1 ≤ lk) (h2 : lk ≤ 999) : Named F 1 := ⟨by omega, by rw [h.iw]; decide +kernel, by rw [h.lk]; exact h1, by rw [h.lk]; exact h2⟩
theorem Sh.ul (h : Sh F [⟨s, 1⟩] [3] 1 1 t) (hF : FInv F) (h1 : splitR p = 0) (h2 : splitP p = [s]) (os : List Int) :
    ulR F p = 0 ∧ ((1 : Int) ∈ os → Sh (ulF F p os) [] [3] 1 0 t) ∧ (¬ (1 : Int) ∈ os → Sh (ulF F p os) [] [1] 0 0 []) := by
  obtain ⟨w1, w2⟩ := h.one (by omega) h1 h2
  have hf : isD F 1 = false := h.isf (by omega) (by omega)
  have hfd : fdR F 0 s = 1 := by unfold fdR; rw [h.dir, find_one]; rfl
  have hr : rmR F 0 s = 0 := rm_yes ((h.isd (by omega)).2 rfl) (by rw [hfd]; omega)
  have hS := (h.rm (by omega) hF hr).lkf 0
  rw [place_one] at hS
  have e : (1 : Int).toNat = 1 := rfl
  refine ⟨?_, fun q => ?_, fun q => ?_⟩
  · unfold ulR
    rw [w1]
    dsimp only
    rw [if_pos rfl, hf]
    rfl
  · unfold ulF dpF
    rw [w1, w2]
    dsimp only
    rw [e, h.lk, if_neg (fun x => x.2 q)]
    exact hS
  · unfold ulF dpF
    rw [w1, w2]
    dsimp only
    rw [e, h.lk, if_pos ⟨rfl, q⟩]
    exact hS.fr
theorem Sh.rd {b : List UInt8} (h : Sh F l iw kd lk (nums b)) (hb : b.length ≤ 192) : rdT F 1 0 192 = b ∧ rdR 1 0 192 = 0 := by
  constructor
  · unfold rdT
    rw [if_pos ⟨rfl, by omega, by omega⟩]
    show readT F 1 0 192 = b
    unfold readT cutB
    rw [h.txt, List.drop_zero, List.take_of_length_le (by rw [nums_len]; exact hb), byts_nums]
  · rfl
theorem left3 : Bi.cntF (Bi.bt [3]) 32 = 30 := by decide +kernel
theorem left1 : Bi.cntF (Bi.bt [1]) 32 = 31 := by decide +kernel
theorem Sh.cl (h : Sh F l [3] 1 0 t) : Sh (clF F 1) l [1] 0 0 [] := by
  unfold clF
  rw [if_pos ⟨h.kd, h.lk⟩]
  exact h.fr
theorem Sh.none (h : Sh F [] iw kd lk t) : ∃ sn', intoN 1 F (fun _ => false) 0 [] = some ([], sn') := by
  refine ⟨snU (fun _ => false) 0, ?_⟩
  show addsN (intoN 0 F) F [] (snU (fun _ => false) 0) (srt (prs (dirL F ((0 : Nat) : Int)))) = _
  rw [show ((0 : Nat) : Int) = 0 from rfl, h.dir]
  have : srt (prs []) = [] := List.length_eq_zero_iff.1 (srt_facts (prs [])).2.1.length_eq
  rw [this]
  rfl
end
end Go.Proofs.YtcjpahnlckfgoaaGreatDoor

namespace Go.Proofs.YtcjpahnlckfgoaaGreatDoor
open Go.RowKit
set_option linter.unusedVariables false

theorem cntF_used (f : Nat → Bool) : ∀ (n : Nat) (U : List Nat), U.Nodup → (∀ b, b < n → (f b = true ↔ b ∈ U)) → (∀ b ∈ U, b < n) → Bi.cntF f n + U.length = n
  | 0, U, _, _, h => by
    cases U with
    | nil => rfl
    | cons a l => exact absurd (h a (List.mem_cons_self ..)) (by omega)
  | n + 1, U, hn, hU, hl => by
    unfold Bi.cntF
    by_cases hf : f n = true
    · have hm : n ∈ U := (hU n (by omega)).1 hf
      have ih := cntF_used f n (U.erase n) (hn.erase n) (fun b hb => by
        rw [hU b (by omega), hn.mem_erase_iff]
        exact ⟨fun h => ⟨by omega, h⟩, fun h => h.2⟩) (fun b hb => by
        have h1 := hl b (List.mem_of_mem_erase hb)
        have h2 := (hn.mem_erase_iff.1 hb).1
        omega)
      rw [List.length_erase_of_mem hm] at ih
      have := List.length_pos_of_mem hm
      rw [if_pos hf]
      omega
    · have hm : ¬ n ∈ U := fun h => hf ((hU n (by omega)).2 h)
      have ih := cntF_used f n U hn (fun b hb => hU b (by omega)) (fun b hb => by
        have h1 := hl b hb
        have h2 : b ≠ n := fun e => hm (e ▸ hb)
        omega)
      rw [if_neg hf]
      omega
theorem lay_shr {F : FS} (hF : FInv F) {i : Nat} (hi : i < 32) (hu : Bi.bt F.iw i = true) {d : List Int} (hd : ∀ y ∈ d, 0 ≤ y ∧ y < 256) (h : d.length ≤ (F.ino i).txt.length) : FInv (layT F i d) := by
  have hx := hF.max i hi
  have hm : max (F.ino i).txt.length (0 + d.length) = (F.ino i).txt.length := by omega
  have hW : FInv (writeF F i 0 d) := hF.write hi hu (by omega) hd (by rw [hm]; exact room_less hF hi (Nat.le_refl _))
  have hl : ((writeF F i 0 d).ino i).txt.length = (F.ino i).txt.length := by
    rw [write_lay, lay_txt, patch_len (by rw [sized_len]; omega), sized_len]
    omega
  rw [← write_over hF hi h]
  exact hW.resize hi hu (by omega) (room_less hW hi (by omega))
section
variable {F : FS} {l : List Ent} {iw : List Nat} {kd lk : Int} {t : List Int} {s p q : List UInt8}
theorem Sh.cnt (h : Sh F l iw kd lk t) (hF : FInv F) : Bi.cntF (Bi.bt F.bw) F.n + (12 + need (9 * l.length) + need t.length) = 60 := by
  have h0 := hF.len 0 (by omega)
  have h1 := hF.len 1 (by omega)
  rw [h.root.len] at h0
  rw [h.txt] at h1
  have hd0 := hF.data 0 (by omega)
  have hd1 := hF.data 1 (by omega)
  have hn := h.n
  have := cntF_used (Bi.bt F.bw) F.n (List.range 12 ++ ((F.ino 0).blk ++ (F.ino 1).blk)) (by
    rw [List.nodup_append]
    refine ⟨List.nodup_range, ?_, fun a ha b hb e => ?_⟩
    · rw [List.nodup_append]
      refine ⟨hF.nd 0 (by omega), hF.nd 1 (by omega), fun a ha b hb e => ?_⟩
      subst e
      have := hF.one 0 1 (by omega) (by omega) a ha hb
      omega
    · subst e
      have ha' := List.mem_range.1 ha
      rcases List.mem_append.1 hb with q | q
      · have := (hd0 a q).1; omega
      · have := (hd1 a q).1; omega) (fun b hb => by
    rw [List.mem_append, List.mem_append, List.mem_range]
    constructor
    · intro hy
      by_cases q : b < 12
      · exact Or.inl q
      · obtain ⟨i, hi, hm⟩ := hF.whose b (by omega) hb hy
        refine Or.inr ?_
        by_cases i0 : i = 0
        · rw [i0] at hm; exact Or.inl hm
        · by_cases i1 : i = 1
          · rw [i1] at hm; exact Or.inr hm
          · rw [h.no i (by omega)] at hm
            exact absurd hm (by simp [Ino.no])
    · rintro (q | q | q)
      · exact hF.low b q
      · exact (hd0 b q).2.2
      · exact (hd1 b q).2.2) (fun b hb => by
    rw [List.mem_append, List.mem_append, List.mem_range] at hb
    rcases hb with q | q | q
    · omega
    · exact (hd0 b q).2.1
    · exact (hd1 b q).2.1)
  rw [List.length_append, List.length_append, List.length_range, h0, h1] at this
  omega
theorem Sh.room (h : Sh F l iw kd lk t) (hF : FInv F) {n : Nat} (hn : n ≤ 192) : roomB F 1 n = true := by
  have h1 := h.cnt hF
  have h2 := h.root.most
  have h3 := hF.max 1 (by omega)
  rw [h.txt] at h3
  unfold roomB
  refine decide_eq_true ?_
  unfold need at *
  omega
theorem Sh.write (h : Sh F l iw kd lk []) (hF : FInv F) {b : List UInt8} (hb : b.length ≤ 192) : wrR F 1 0 b = 0 := by
  unfold wrR
  rw [if_neg (by omega), if_neg (by omega)]
  by_cases q : b = []
  · rw [if_pos q]
  · rw [if_neg q, h.txt, if_pos (h.room hF (by simp; omega))]
theorem find_not {k : Nat} (hs : q ≠ s) : findE [⟨s, k⟩] q = -1 := by
  have h : (s == q) = false := beq_false_of_ne (fun e => hs e.symm)
  have e : placeE [⟨s, k⟩] q = 1 := by simp [placeE, List.findIdx_cons, h]
  unfold findE
  rw [e, if_neg (by simp)]
theorem Sh.ren (h : Sh F [⟨s, 1⟩] [3] 1 1 t) (hF : FInv F) (h1 : splitR p = 0) (h2 : splitP p = [s]) (hr : rnR F p q [] = 0) : ∃ s', Sh (rnF F p q []) [⟨s', 1⟩] [3] 1 1 t := by
  obtain ⟨w1, w2⟩ := h.one (by omega) h1 h2
  have hf : isD F 1 = false := h.isf (by omega) (by omega)
  have hd0 : isD F 0 = true := (h.isd (by omega)).2 rfl
  have hfd : fdR F 0 s = 1 := by unfold fdR; rw [h.dir, find_one]; rfl
  unfold rnR at hr
  unfold rnF
  rw [w1, w2] at hr ⊢
  dsimp only at hr ⊢
  rw [if_pos rfl, if_pos rfl] at hr
  by_cases hp : (paR F q).2.2 = 0
  · obtain ⟨s2, r1, r2, r3⟩ := h.pa (by omega) (fun e he => by rw [List.mem_singleton.1 he]; exact Nat.one_ne_zero) hp
    rw [r3, hf] at hr
    rw [r3]
    dsimp only at hr ⊢
    rw [if_pos rfl, Bool.false_and, if_neg (by simp)] at hr
    unfold rnT at hr
    unfold rnG
    by_cases e : s2 = s
    · rw [e, hfd, if_pos rfl]
      exact ⟨s, h⟩
    · have hn : fdR F 0 s2 = -1 := by unfold fdR; rw [h.dir, find_not e]
      rw [hn, if_neg (by omega), if_pos (by omega)] at hr ⊢
      unfold mvR at hr
      rw [if_neg (fun x => x.1 rfl)] at hr
      unfold mvF
      have hrm : rmR F 0 s = 0 := rm_yes hd0 (by rw [hfd]; omega)
      have hS := h.rm (by omega) hF hrm
      rw [place_one] at hS
      have hS' : Sh (rmF F 0 s) [] [3] 1 1 t := hS
      obtain ⟨k, l', e1, e2, e3, e4, e5, e6, e7⟩ := rem_ok hF (h.all (by omega)) hrm
      have k0 : k = 0 := by omega
      subst k0
      have hF2 : FInv (rmF F 0 s) := by
        rw [e6]
        refine lay_shr hF (by omega) hF.root (nums_byte _) ?_
        have := hS'.root.txt
        rw [e6, lay_txt] at this
        rw [this]
        simp [nums, encsE]
      exact ⟨s2, hS'.ad (by omega) hF2 hr⟩
  · rw [if_neg hp] at hr
    exact absurd hr hp
/-- What is told of one file. -/
theorem Sh.tell {b : List UInt8} (h : Sh F [⟨s, 1⟩] iw 1 lk (nums b)) (hb : b.length ≤ 192) : ∃ sn', intoN 1 F (fun _ => false) 0 [] = some ([⟨47 :: s, false, b⟩], sn') := by
  refine ⟨snU (fun _ => false) 0, ?_⟩
  show addsN (intoN 0 F) F [] (snU (fun _ => false) 0) (srt (prs (dirL F ((0 : Nat) : Int)))) = _
  rw [show ((0 : Nat) : Int) = 0 from rfl, h.dir]
  have : srt (prs [⟨s, 1⟩]) = [(s, 1)] := List.perm_singleton.1 (srt_facts (prs [⟨s, 1⟩])).2.1
  rw [this]
  have hf : isD F ((1 : Nat) : Int) = false := h.isf (by omega) (by omega)
  unfold addsN addN
  dsimp only
  rw [hf, if_neg (by simp), show ((1 : Nat) : Int) = 1 from rfl, (h.rd hb).1]
  rfl
end
end Go.Proofs.YtcjpahnlckfgoaaGreatDoor
