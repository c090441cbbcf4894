/- januslaw15: used, Alike. -/
/- Each deed, on the program's disk and on the document's: one answer, one file system behind it. -/
import Derived.Test.YtcaofdbcgdgbbaaGreatDoorPyEH
import Derived.BigQuiet
namespace Go.Proofs.YtcaofdbcgdgbbaaGreatDoor
open Go.RowKit
set_option linter.unusedVariables false

/-- Words that can be read. -/
def Wr (w : World) (v : Value) (zs : List Int) : Prop := ∃ g cap cur, v = .slice (some ⟨g, 0, none⟩) zs.length cap ∧ w.heap[g]? = some (.cells cur 120 (0, 0)) ∧ ∀ (j : Nat) (x : Int), zs[j]? = some x → cur[j]? = some (.int .u64 x)
set_option maxHeartbeats 1000000 in
theorem words_eq (u v : Value) (zs : List Int) (w : World) (h1 : Wr w u zs) (h2 : Wr w v zs) (hl : zs.length ≤ 1000) :
    Calls Tryz.prog 64 #[u, v] w fun e w' => e = .returned (.bool true) ∧ ∃ q, w' = w.drewN q := by
  obtain ⟨g, cap, cur, rfl, hh, hg⟩ := h1
  obtain ⟨g', cap', cur', rfl, hh', hg'⟩ := h2
  have HA : Hid (∀ j, j < zs.length → w.cell? ⟨g, j, none⟩ = some (.int .u64 (zs.getD j 0))) := fun j hj => by
    rw [cell_of_heap hh, hg j _ (List.getElem?_eq_getElem hj), List.getD_eq_getElem?_getD, List.getElem?_eq_getElem hj]
    rfl
  have HB : Hid (∀ j, j < zs.length → w.cell? ⟨g', j, none⟩ = some (.int .u64 (zs.getD j 0))) := fun j hj => by
    rw [cell_of_heap hh', hg' j _ (List.getElem?_eq_getElem hj), List.getD_eq_getElem?_getD, List.getElem?_eq_getElem hj]
    rfl
  clear hh hg hh' hg'
  go_enter Tryz.func64, Tryz.ntmps64
  go_wp2
  go_loopw [5] (fun i wr => ∃ (k q : Nat), k ≤ zs.length ∧ i = .int .i64 k ∧ wr = w.drewN q) (fun i _ => zs.length - (intOf i).toNat)
  case atStart => exact ⟨0, 0, by omega, rfl, rfl⟩
  case round =>
    obtain ⟨k, q, hk, rfl, rfl⟩ := hrel
    by_cases hlk : k < zs.length
    · have c1 := HA.out k hlk
      have c2 := HB.out k hlk
      generalize zs.getD k 0 = x at c1 c2
      have hint : (k : Int) < (zs.length : Int) := by omega
      go_wp2
      go_quiet (fail)
      go_wp2
      go_roundw
      case rel => exact ⟨k + 1, _, by omega, by go_num, rfl⟩
      case measure => simp [intOf]; omega
    · have : k = zs.length := by omega
      subst this
      go_wp2
      go_ret
      exact ⟨rfl, q, rfl⟩
theorem URow.wr {M : Nat} {w : World} {v : Value} {zs : List Int} (h : URow M w v zs) (hne : zs ≠ []) : Wr w v zs := by
  obtain ⟨a, cap, e, _, _, hf⟩ := h
  obtain ⟨g, cur, ea, _, hh, hc⟩ := hf hne
  exact ⟨g, cap, cur, by rw [e, ea], hh, hc⟩
/-- What two disks of one file system have alike. -/
theorem frames_same {vs us : List Int} {F : FS} (h1 : Holds vs F) (h2 : Holds us F) (hF : FInv F) {i : Nat} (hi : i < F.n) (hc : i < 12 ∨ Bi.bt F.bw i = true) : frameOf vs i = frameOf us i := by
  rcases Nat.lt_or_ge i 12 with q | q
  · rcases Nat.eq_zero_or_pos i with e | e
    · rw [e, h1.head, h2.head]
    · rw [show i = 1 + (i - 1) by omega, h1.tab (i - 1) (by omega), h2.tab (i - 1) (by omega)]
  · obtain ⟨j, hj, hm⟩ := hF.whose i q hi (by rcases hc with z | z; omega; exact z)
    obtain ⟨k, hk⟩ := List.getElem?_of_mem hm
    rw [h1.data j hj k i hk, h2.data j hj k i hk]
section
variable {w w' : World} {bx gx cap m : Nat} {vs us : List Int} {F : FS}
theorem Rk.keep {n : Nat} {P : Nat → Prop} (h : Rk w bx gx cap n vs m) (hu : UpdP P w w') (hp : ∀ k, P k → k < bx) : Rk w' bx gx cap n vs m := by
  obtain ⟨gt, pt, h, h1, h2⟩ := h
  exact ⟨gt, pt, h.keep hu hp, h1, h2⟩
theorem Rk.c0 {n : Nat} (h : Rk w bx gx cap n vs m) : w.cell? ⟨bx, 0, none⟩ = some (.slice (some ⟨gx, 0, none⟩) n cap) := by
  obtain ⟨gt, pt, h, h1, h2⟩ := h
  exact h.c0
/-- A row of the reference's disk. -/
theorem Rk.row {n : Nat} (h : Rk w bx gx cap n vs m) (i : Nat) (hi : i < n) : ∃ r c, w.cell? ⟨gx, i, none⟩ = some (.slice (some ⟨r, 0, none⟩) 32 c) ∧ Wr w (.slice (some ⟨r, 0, none⟩) 32 c) (frameOf vs i) ∧ ∀ j, j < 32 → w.cell? ⟨r, j, none⟩ = some (.int .u64 ((frameOf vs i).getD j 0)) := by
  have hl := h.len
  obtain ⟨gt, pt, h, h1, h2⟩ := h
  obtain ⟨cur, hh, ht⟩ := h.tab
  obtain ⟨r, c, row, q1, q2, q3, q4, q5⟩ := ht i hi
  have hfl := frameOf_length vs i n hl hi
  refine ⟨r, c, by rw [cell_of_heap hh]; exact q1, ⟨r, c, row, by rw [hfl], q2, q5⟩, fun j hj => ?_⟩
  rw [cell_of_heap q2, q5 j _ (List.getElem?_eq_getElem (by omega)), List.getD_eq_getElem?_getD, List.getElem?_eq_getElem (by omega)]
  rfl
theorem one_bit1 (x r : Nat) : ((((x / 2 ^ r % 2 : Nat)) : Int) == 1) = x.testBit r := by
  rw [Nat.testBit_eq_decide_div_mod_eq]
  generalize x / 2 ^ r = y
  rcases (by omega : y % 2 = 0 ∨ y % 2 = 1) with e | e <;> rw [e] <;> rfl
set_option maxHeartbeats 1000000 in
theorem used_at (h : Rk w bx gx cap F.n us m) (hH : Holds us F) (hF : FInv F) (h64 : F.n ≤ 64) (b : Nat) (hb : b < F.n) :
    Calls Tryz.prog 62 #[ptr bx, .int .i64 (b : Int)] w fun e w' => e = .returned (.bool (Bi.bt F.bw b)) ∧ w' = w := by
  have hn := hF.n1
  have c0 := h.c0
  obtain ⟨r, c, c1, _, c2⟩ := h.row 0 (by omega)
  have hl1 : F.bw.length = 1 := by rw [hF.bw.len]; omega
  have c3 := c2 3 (by omega)
  rw [hH.head, head_bw hF (k := 0) (by omega)] at c3
  have ha := Bi.and_one (F.bw.getD 0 0) b (hF.bw.word 0)
  have ho := one_bit1 (F.bw.getD 0 0) b
  have hbt : (F.bw.getD 0 0).testBit b = Bi.bt F.bw b := by
    unfold Bi.bt
    rw [show b / 64 = 0 by omega, show b % 64 = b by omega]
  rw [hbt] at ho
  have hd1 : (b : Int).tdiv 64 = 0 := by rw [Int.tdiv_eq_ediv_of_nonneg (by omega)]; omega
  have ht1 : (b : Int).tmod 64 = (b : Int) := by rw [Int.tmod_eq_emod_of_nonneg (by omega)]; omega
  have hb64 : b < 64 := by omega
  have hn0 : 0 < F.n := by omega
  generalize Bi.bt F.bw b = z at *
  generalize F.bw.getD 0 0 / 2 ^ b % 2 = t at *
  generalize F.bw.getD 0 0 = x at *
  generalize F.n = n at *
  clear h hH hF c2 hl1 hbt
  go_enter Tryz.func62, Tryz.ntmps62
  go_wp2
  go_ret
  exact ⟨rfl, rfl⟩
set_option maxHeartbeats 2000000 in
theorem alike_at {B G : Nat} (hd : Dk w B G F.n vs m) (hm : m ≤ 900000000000) (hr : Rk w bx gx cap F.n us m) (hH : Holds vs F) (hH' : Holds us F) (hF : FInv F) (h64 : F.n ≤ 64) (hlo : B < bx ∧ G < bx) :
    Calls Tryz.prog 29 #[ptr B, ptr bx] w fun e w' => e = .returned (.int .i64 1) ∧ (Dk w' B G F.n vs (m + 100) ∧ Rk w' bx gx cap F.n us m) ∧ BG B G w w' := by
  have HK : Hid (Holds vs F ∧ Holds us F ∧ FInv F) := ⟨hH, hH', hF⟩
  have HD : Hid (Dk w B G F.n vs (m + 0)) := hd
  have HR : Hid (Rk w bx gx cap F.n us m) := hr
  obtain ⟨n, hn⟩ : ∃ n, n = F.n := ⟨_, rfl⟩
  have HN : Hid (n = F.n) := hn
  rw [← hn] at HD HR h64 ⊢
  clear hd hr hH hH' hF hn
  go_enter Tryz.func29, Tryz.ntmps29
  go_wp2
  go_loopw [5] (fun z wr => ∃ (k : Nat), k ≤ n ∧ z = .int .i64 k ∧ Dk wr B G n vs (m + k) ∧ Rk wr bx gx cap n us m ∧ BG B G w wr) (fun z _ => n - (intOf z).toNat)
  case atStart => exact ⟨0, by omega, rfl, HD.out, HR.out, UpdP.refl _ _⟩
  case round =>
    clear HD HR
    obtain ⟨k, hk, rfl, hd, hr, hbg⟩ := hrel
    have c0 := hr.c0
    by_cases hlt : k < n
    · have hki : (k : Int) < (n : Int) := by omega
      have hU := used_at (F := F) (by rw [← HN.out]; exact hr) HK.out.2.1 HK.out.2.2 (by rw [← HN.out]; exact h64) k (by rw [← HN.out]; exact hlt)
      have hcase : (k < 12 ∨ (¬ k < 12 ∧ Bi.bt F.bw k = true)) ∨ (¬ k < 12 ∧ Bi.bt F.bw k = false) := by
        rcases Nat.lt_or_ge k 12 with q | q
        · exact Or.inl (Or.inl q)
        · cases hb : Bi.bt F.bw k with
          | true => exact Or.inl (Or.inr ⟨by omega, rfl⟩)
          | false => exact Or.inr ⟨by omega, rfl⟩
      rcases hcase with hc | ⟨hc1, hc2⟩
      · obtain ⟨gt, pt, hda, h1, h2⟩ := hd
        have hG := Di.get_at B G n vs gt pt (k : Int) wr hda (by omega) (by omega) (by omega)
        rw [Int.toNat_natCast, frames_same HK.out.1 HK.out.2.1 HK.out.2.2 (by rw [← HN.out]; exact hlt) (hc.imp id (fun q => q.2))] at hG
        have HR : Hid (Rk wr bx gx cap n us m) := hr
        have HBG : Hid (BG B G w wr) := hbg
        have HGt : Hid (gt ≤ m + k ∧ pt ≤ m + k) := ⟨h1, h2⟩
        have HFl : Hid ((frameOf us k).length = 32) := frameOf_length us k n hr.len hlt
        clear hda h1 h2 hr hbg
        rcases hc with q | ⟨q, q2⟩
        · have hq : decide ((12 : Int) ≤ (k : Int)) = false := decide_eq_false (by omega)
          clear hU
          go_wp2_with fail
          refine hG.mono ?_
          rintro e w2 ⟨gg, rfl, hur, hda, hu2⟩
          have hwr := hur.wr (by intro e; rw [e] at HFl; exact absurd HFl.out (by simp))
          have hr2 := HR.out.keep (hu2.p (fun j => j = B) rfl) (fun j hj => by omega)
          obtain ⟨r, c, d1, d2, _⟩ := hr2.row k hlt
          have d0 := hr2.c0
          have hW := words_eq _ _ (frameOf us k) w2 hwr d2 (by rw [HFl.out]; omega)
          have HJ : Hid (Dk w2 B G n vs (m + (k + 1)) ∧ Rk w2 bx gx cap n us m ∧ BG B G w w2) := ⟨⟨gt + 1, pt, hda, by have := HGt.out; omega, by have := HGt.out; omega⟩, hr2, HBG.out.trans (hu2.p _ (Or.inl rfl))⟩
          clear hG hur hda hu2 hwr hr2 d2 c0
          go_wp2_with fail
          refine hW.mono ?_
          rintro e w3 ⟨rfl, qq, hw⟩
          have HJ3 : Hid (Dk w3 B G n vs (m + (k + 1)) ∧ Rk w3 bx gx cap n us m ∧ BG B G w w3) := ⟨HJ.out.1.below (Di.drewN_below ⟨qq, hw⟩), HJ.out.2.1.below (Di.drewN_below ⟨qq, hw⟩), HJ.out.2.2.trans (UpdP.of_below (Di.drewN_below ⟨qq, hw⟩))⟩
          clear hw HJ hW d0 d1
          go_wp2
          go_roundw
          case rel => exact ⟨k + 1, by omega, by go_num, HJ3.out.1, HJ3.out.2.1, HJ3.out.2.2⟩
          case measure => simp [intOf]; omega
        · have hq : decide ((12 : Int) ≤ (k : Int)) = true := decide_eq_true (by omega)
          rw [q2] at hU
          go_wp2_with fail
          refine hU.mono ?_
          rintro e w1 ⟨rfl, hw⟩
          rw [hw]
          clear hw w1 hU
          go_wp2_with fail
          refine hG.mono ?_
          rintro e w2 ⟨gg, rfl, hur, hda, hu2⟩
          have hwr := hur.wr (by intro e; rw [e] at HFl; exact absurd HFl.out (by simp))
          have hr2 := HR.out.keep (hu2.p (fun j => j = B) rfl) (fun j hj => by omega)
          obtain ⟨r, c, d1, d2, _⟩ := hr2.row k hlt
          have d0 := hr2.c0
          have hW := words_eq _ _ (frameOf us k) w2 hwr d2 (by rw [HFl.out]; omega)
          have HJ : Hid (Dk w2 B G n vs (m + (k + 1)) ∧ Rk w2 bx gx cap n us m ∧ BG B G w w2) := ⟨⟨gt + 1, pt, hda, by have := HGt.out; omega, by have := HGt.out; omega⟩, hr2, HBG.out.trans (hu2.p _ (Or.inl rfl))⟩
          clear hG hur hda hu2 hwr hr2 d2 c0
          go_wp2_with fail
          refine hW.mono ?_
          rintro e w3 ⟨rfl, qq, hw⟩
          have HJ3 : Hid (Dk w3 B G n vs (m + (k + 1)) ∧ Rk w3 bx gx cap n us m ∧ BG B G w w3) := ⟨HJ.out.1.below (Di.drewN_below ⟨qq, hw⟩), HJ.out.2.1.below (Di.drewN_below ⟨qq, hw⟩), HJ.out.2.2.trans (UpdP.of_below (Di.drewN_below ⟨qq, hw⟩))⟩
          clear hw HJ hW d0 d1
          go_wp2
          go_roundw
          case rel => exact ⟨k + 1, by omega, by go_num, HJ3.out.1, HJ3.out.2.1, HJ3.out.2.2⟩
          case measure => simp [intOf]; omega
      · have hq : decide ((12 : Int) ≤ (k : Int)) = true := decide_eq_true (by omega)
        rw [hc2] at hU
        have HJ : Hid (Dk wr B G n vs (m + (k + 1)) ∧ Rk wr bx gx cap n us m ∧ BG B G w wr) := ⟨hd.mono (by omega), hr, hbg⟩
        clear hd hr hbg
        go_wp2_with fail
        refine hU.mono ?_
        rintro e w1 ⟨rfl, hw⟩
        rw [hw]
        clear hw w1 hU
        go_wp2
        go_roundw
        case rel => exact ⟨k + 1, by omega, by go_num, HJ.out.1, HJ.out.2.1, HJ.out.2.2⟩
        case measure => simp [intOf]; omega
    · have hki : ¬ (k : Int) < (n : Int) := by omega
      have HJ : Hid ((Dk wr B G n vs (m + 100) ∧ Rk wr bx gx cap n us m) ∧ BG B G w wr) := ⟨⟨hd.mono (by omega), hr⟩, hbg⟩
      clear hd hr hbg
      go_wp2
      go_ret
      exact ⟨rfl, HJ.out.1, HJ.out.2⟩
end
end Go.Proofs.YtcaofdbcgdgbbaaGreatDoor

namespace Go.Proofs.YtcaofdbcgdgbbaaGreatDoor
open Go.RowKit Go.Lib
set_option linter.unusedVariables false

/-- What each deed answers and leaves, whatever the inode's number. -/
def rsA (F : FS) (i s : Int) : Int := if isI i = true then rsR F i.toNat s else 101
def rsB (F : FS) (i s : Int) : FS := if isI i = true then rsF F i.toNat s else F
def wrA (F : FS) (i o : Int) (l : List UInt8) : Int := if isI i = true then wrR F i.toNat o l else 101
def wrB (F : FS) (i o : Int) (l : List UInt8) : FS := if isI i = true then wrF F i.toNat o l else F
def frA (i : Int) : Int := if isI i = true then 0 else 101
def frB (F : FS) (i : Int) : FS := if isI i = true then freeF F i.toNat else F
section
variable {w w' : World} {B G bx gx m : Nat} {F : FS}
theorem Es.mono {m' : Nat} (h : Es w bx gx F m) (hm : m ≤ m') : Es w bx gx F m' := by
  obtain ⟨cap, vs, hr, hH⟩ := h
  exact ⟨cap, vs, hr.mono hm, hH⟩
theorem c_resize (h : Fs w B G F m) (hm : m ≤ 900000000000) (i s : Int) (hu : isI i = true → Bi.bt F.iw i.toNat = true) :
    Calls Tryz.prog 55 #[sto B, .int .i64 i, .int .i64 s] w fun e w' => e = .returned (.int .i64 (rsA F i s)) ∧ Fs w' B G (rsB F i s) (m + 2000) ∧ BG B G w w' := by
  unfold rsA rsB
  cases hi : isI i with
  | true =>
    obtain ⟨k, rfl, hk⟩ := isI_of hi
    exact resize_all h hm k hk (hu hi) s
  | false =>
    refine (resize_arg B i s (Or.inl hi) w).mono ?_
    rintro e w' ⟨he, rfl⟩
    exact ⟨he, h.mono (by omega), UpdP.refl _ _⟩
theorem c_write (h : Fs w B G F m) (hm : m ≤ 900000000000) (i o : Int) (l : List UInt8) (hl : l.length ≤ 9223372036854775807) (hu : isI i = true → Bi.bt F.iw i.toNat = true) :
    Calls Tryz.prog 50 #[sto B, .int .i64 i, .int .i64 o, tx l] w fun e w' => e = .returned (.int .i64 (wrA F i o l)) ∧ Fs w' B G (wrB F i o l) (m + 2000) ∧ BG B G w w' := by
  unfold wrA wrB
  cases hi : isI i with
  | true =>
    obtain ⟨k, rfl, hk⟩ := isI_of hi
    exact write_all h hm k hk (hu hi) o l hl
  | false =>
    refine (write_arg B i o l (Or.inl hi) w).mono ?_
    rintro e w' ⟨he, rfl⟩
    exact ⟨he, h.mono (by omega), UpdP.refl _ _⟩
theorem r_resize (h : Es w bx gx F m) (hm : m ≤ 890000000000) (hF : FInv F) (h64 : F.n ≤ 64) (i s : Int) (hu : isI i = true → Bi.bt F.iw i.toNat = true) :
    Calls Tryz.prog 57 #[ptr bx, .int .i64 i, .int .i64 s] w fun e w' => e = .returned (.int .i64 (rsA F i s)) ∧ Es w' bx gx (rsB F i s) (m + 2000) ∧ BG bx gx w w' := by
  obtain ⟨cap, vs, hr, hH⟩ := h
  have stay : ∀ (e : Ending) (w' : World), (e = .returned (.int .i64 101) ∧ w' = w) → e = .returned (.int .i64 101) ∧ Es w' bx gx F (m + 2000) ∧ BG bx gx w w' := fun e w' q => by
    obtain ⟨q1, rfl⟩ := q
    exact ⟨q1, ⟨cap, vs, hr.mono (by omega), hH⟩, UpdP.refl _ _⟩
  unfold rsA rsB
  cases hi : isI i with
  | false => exact (eresize_arg i s (Or.inl hi) w).mono stay
  | true =>
    obtain ⟨k, rfl, hk⟩ := isI_of hi
    by_cases h0 : s < 0
    · have e1 : rsR F k s = 101 := by unfold rsR; rw [if_pos h0]
      have e2 : rsF F k s = F := by unfold rsF; rw [if_pos h0]
      simp only [if_pos, Int.toNat_natCast, e1, e2]
      exact (eresize_arg (k : Int) s (Or.inr h0) w).mono stay
    · by_cases h1 : 192 < s
      · have e1 : rsR F k s = 27 := by unfold rsR; rw [if_neg h0, if_pos h1]
        have e2 : rsF F k s = F := by unfold rsF; rw [if_neg h0, if_pos h1]
        simp only [if_pos, Int.toNat_natCast, e1, e2]
        refine (eresize_big k hk s h1 w).mono ?_
        rintro e w' ⟨q1, rfl⟩
        exact ⟨q1, ⟨cap, vs, hr.mono (by omega), hH⟩, UpdP.refl _ _⟩
      · obtain ⟨z, rfl⟩ := nat_of s (by omega)
        simp only [if_pos, Int.toNat_natCast]
        refine (eresize_in hr (by omega) hH hF h64 k z hk (hu hi) (by omega)).mono ?_
        rintro e w' ⟨q1, ⟨us, q2, q3⟩, q4⟩
        refine ⟨q1, ⟨cap, us, ?_, q3⟩, q4⟩
        rw [(rsF_iw F k (z : Int)).2]
        exact q2.mono (by omega)
theorem r_write (h : Es w bx gx F m) (hm : m ≤ 890000000000) (hF : FInv F) (h64 : F.n ≤ 64) (i o : Int) (ho : o < 9223372036854775808) (l : List UInt8) (hl : l.length ≤ 9223372036854775807) (hu : isI i = true → Bi.bt F.iw i.toNat = true) :
    Calls Tryz.prog 53 #[ptr bx, .int .i64 i, .int .i64 o, tx l] w fun e w' => e = .returned (.int .i64 (wrA F i o l)) ∧ Es w' bx gx (wrB F i o l) (m + 2000) ∧ BG bx gx w w' := by
  obtain ⟨cap, vs, hr, hH⟩ := h
  have stay : ∀ (z : Int) (e : Ending) (w' : World), (e = .returned (.int .i64 z) ∧ w' = w) → e = .returned (.int .i64 z) ∧ Es w' bx gx F (m + 2000) ∧ BG bx gx w w' := fun z e w' q => by
    obtain ⟨q1, rfl⟩ := q
    exact ⟨q1, ⟨cap, vs, hr.mono (by omega), hH⟩, UpdP.refl _ _⟩
  unfold wrA wrB
  cases hi : isI i with
  | false => exact (ewrite_arg i o l (Or.inl hi) w).mono (stay 101)
  | true =>
    obtain ⟨k, rfl, hk⟩ := isI_of hi
    by_cases h0 : o < 0
    · have e1 : wrR F k o l = 101 := by unfold wrR; rw [if_pos h0]
      have e2 : wrF F k o l = F := by unfold wrF; rw [if_pos h0]
      simp only [if_pos, Int.toNat_natCast, e1, e2]
      exact (ewrite_arg (k : Int) o l (Or.inr h0) w).mono (stay 101)
    · obtain ⟨z, rfl⟩ := nat_of o (by omega)
      by_cases h1 : 192 < (z : Int) + l.length
      · have e1 : wrR F k (z : Int) l = 27 := by unfold wrR; rw [if_neg h0, if_pos h1]
        have e2 : wrF F k (z : Int) l = F := by unfold wrF; rw [if_neg h0, if_pos h1]
        simp only [if_pos, Int.toNat_natCast, e1, e2]
        exact (ewrite_big k hk z (by omega) l hl h1 w).mono (stay 27)
      · by_cases h2 : l = []
        · obtain ⟨e1, e2⟩ := wr_nil F k (z : Int) (by omega) (by simp [h2] at h1; omega)
          subst h2
          simp only [if_pos, Int.toNat_natCast, e1, e2]
          exact (ewrite_none k hk z (by simp at h1; omega) w).mono (stay 0)
        · simp only [if_pos, Int.toNat_natCast]
          refine (ewrite_in hr (by omega) hH hF h64 k z l hk (hu hi) h2 (by omega)).mono ?_
          rintro e w' ⟨q1, ⟨us, q2, q3⟩, q4⟩
          refine ⟨q1, ⟨cap, us, ?_, q3⟩, q4⟩
          rw [(wrF_iw F k (z : Int) l).2]
          exact q2
theorem r_read (h : Es w bx gx F m) (hm : m ≤ 890000000000) (hF : FInv F) (i o n : Int) (ho : o < 9223372036854775808) (hn : n < 9223372036854775808) :
    Calls Tryz.prog 56 #[ptr bx, .int .i64 i, .int .i64 o, .int .i64 n] w fun e w' => e = .returned (.tuple #[tx (rdT F i o n), .int .i64 (rdR i o n)]) ∧ Es w' bx gx F (m + 2000) ∧ BG bx gx w w' := by
  obtain ⟨cap, vs, hr, hH⟩ := h
  unfold rdT rdR
  by_cases hg : isI i = true ∧ 0 ≤ o ∧ 0 ≤ n
  · rw [if_pos hg, if_pos hg]
    obtain ⟨i, rfl, hi⟩ := isI_of hg.1
    obtain ⟨o, rfl⟩ := nat_of o hg.2.1
    obtain ⟨n, rfl⟩ := nat_of n hg.2.2
    simp only [Int.toNat_natCast]
    refine (eread_in hr hm hH hF i o n hi (by omega) (by omega)).mono ?_
    rintro e w' ⟨q1, q2, q3⟩
    exact ⟨q1, ⟨cap, vs, q2.mono (by omega), hH⟩, q3⟩
  · rw [if_neg hg, if_neg hg]
    refine (eread_arg i o n ?_ w).mono ?_
    · cases hi : isI i with
      | false => exact Or.inl rfl
      | true => exact Or.inr (by by_cases q : o < 0; exact Or.inl q; exact Or.inr (by rcases Int.lt_or_le n 0 with q2 | q2; exact q2; exact absurd ⟨hi, by omega, q2⟩ hg))
    · rintro e w' ⟨q1, rfl⟩
      exact ⟨q1, ⟨cap, vs, hr.mono (by omega), hH⟩, UpdP.refl _ _⟩
theorem r_alloc (h : Es w bx gx F m) (hm : m ≤ 890000000000) (hF : FInv F) (kind : Int) (hk : Fit kind) :
    Calls Tryz.prog 15 #[ptr bx, .int .i64 kind] w fun e w' => e = .returned (.tuple #[.int .i64 (alI F), .int .i64 (alR F)]) ∧ Es w' bx gx (alF F kind) (m + 2000) ∧ BG bx gx w w' := by
  obtain ⟨cap, vs, hr, hH⟩ := h
  refine (ealloc_at hr (by omega) hH hF kind hk).mono ?_
  rintro e w' ⟨q1, ⟨us, q2, q3⟩, q4⟩
  refine ⟨q1, ⟨cap, us, ?_, q3⟩, q4⟩
  have e1 : (alF F kind).n = F.n := by unfold alF; split <;> rfl
  rw [e1]
  exact q2.mono (by omega)
theorem r_used (h : Es w bx gx F m) (hm : m ≤ 890000000000) (hF : FInv F) (i : Int) (hi : isI i = true) :
    Calls Tryz.prog 13 #[ptr bx, .int .i64 i] w fun e w' => e = .returned (.bool (Bi.bt F.iw i.toNat)) ∧ Es w' bx gx F (m + 100) ∧ BG bx gx w w' := by
  obtain ⟨cap, vs, hr, hH⟩ := h
  obtain ⟨k, rfl, hk⟩ := isI_of hi
  refine (eused_at hr (by omega) hF.n1 hH hF k hk).mono ?_
  rintro e w' ⟨q1, q2, q3⟩
  exact ⟨q1, ⟨cap, vs, q2.mono (by omega), hH⟩, q3.p _ (Or.inl rfl)⟩
theorem eGet_out (i : Int) (hi : isI i = false) (w : World) :
    Calls Tryz.prog 87 #[ptr bx, .int .i64 i] w fun e w' => e = .returned (.tuple #[.agg zi, .int .i64 101]) ∧ Below w.heap.size w w' := by
  have hc : i < 0 ∨ (¬ i < 0 ∧ 32 ≤ i) := by
    unfold isI at hi
    simp at hi
    omega
  clear hi
  rcases hc with h0 | ⟨h0, h1⟩
  all_goals
    go_enter Tryz.func87, Tryz.ntmps87
    go_wp2
    refine bodyPost_ret (v := .tuple #[.agg zi, .int .i64 101]) ?_ rfl ⟨rfl, ?_⟩
    · rw [results_cell_tmp rfl, ← lit_zi]
      go_simp
    · exact below_alloc _ _
theorem r_get (h : Es w bx gx F m) (hm : m ≤ 890000000000) (hF : FInv F) (i : Int) :
    Calls Tryz.prog 87 #[ptr bx, .int .i64 i] w fun e w' => e = .returned (.tuple #[.agg (irow (gtX F i)), .int .i64 (gtR i)]) ∧ Es w' bx gx F (m + 2000) ∧ BG bx gx w w' := by
  obtain ⟨cap, vs, hr, hH⟩ := h
  unfold gtX gtR
  cases hi : isI i with
  | true =>
    obtain ⟨k, rfl, hk⟩ := isI_of hi
    simp only [if_pos, Int.toNat_natCast]
    have hrow := hH.row hF hk
    have := eGet_at hr (by omega) hF.n1 k hk (by rw [hrow]; exact hF.fit hk)
    rw [hrow] at this
    refine this.mono ?_
    rintro e w' ⟨q1, q2, q3⟩
    exact ⟨q1, ⟨cap, vs, q2.mono (by omega), hH⟩, q3.p _ (Or.inl rfl)⟩
  | false =>
    refine (eGet_out i hi w).mono ?_
    rintro e w' ⟨q1, q2⟩
    exact ⟨q1, ⟨cap, vs, (hr.below q2).mono (by omega), hH⟩, UpdP.of_below q2⟩
end
/-- Both disks, and what was there before. -/
structure TwAt (w wr : World) (B G bx gx : Nat) (F E : FS) (a b : Nat) : Prop where
  fs : Fs wr B G F a
  es : Es wr bx gx E b
  lo : w.heap.size ≤ B ∧ w.heap.size ≤ G ∧ B < bx ∧ G < bx ∧ bx < gx
  old : Below w.heap.size w wr
section
variable {w wr w' : World} {B G bx gx a b : Nat} {F E : FS}
theorem TwAt.code {F' : FS} {a' : Nat} (h : TwAt w wr B G bx gx F E a b) (hf : Fs w' B G F' a') (hu : BG B G wr w') : TwAt w w' B G bx gx F' E a' b := by
  have hl := h.lo
  exact ⟨hf, h.es.keep hu (fun k hk => by rcases hk with e | e <;> omega), hl, h.old.trans (bg_below hu hl.1 hl.2.1 h.old.size)⟩
theorem TwAt.ref {E' : FS} {b' : Nat} (h : TwAt w wr B G bx gx F E a b) (he : Es w' bx gx E' b') (hu : BG bx gx wr w') : TwAt w w' B G bx gx F E' a b' := by
  have hl := h.lo
  exact ⟨h.fs.keep hu (by omega) (by omega), he, hl, h.old.trans (bg_below hu (by omega) (by omega) h.old.size)⟩
theorem TwAt.below (h : TwAt w wr B G bx gx F E a b) (hb : Below wr.heap.size wr w') : TwAt w w' B G bx gx F E a b := ⟨h.fs.below hb, h.es.below hb, h.lo, h.old.trans (hb.mono h.old.size)⟩
theorem TwAt.mono {a' b' : Nat} (h : TwAt w wr B G bx gx F E a b) (ha : a ≤ a') (hb : b ≤ b') : TwAt w wr B G bx gx F E a' b' := ⟨h.fs.mono ha, h.es.mono hb, h.lo, h.old⟩
theorem TwAt.alike (h : TwAt w wr B G bx gx F F a b) (ha : a ≤ 800000000000) (hb : b ≤ 800000000000) (h64 : F.n ≤ 64) :
    Calls Tryz.prog 29 #[ptr B, ptr bx] wr fun e w' => e = .returned (.int .i64 1) ∧ TwAt w w' B G bx gx F F (max a b + 100) (max a b) := by
  obtain ⟨vs, hf⟩ := h.fs
  obtain ⟨cap, us, hr, hH⟩ := h.es
  refine (alike_at (hf.dk.mono (Nat.le_max_left a b)) (by omega) (hr.mono (Nat.le_max_right a b)) hf.hold hH hf.inv h64 ⟨h.lo.2.2.1, h.lo.2.2.2.1⟩).mono ?_
  rintro e w' ⟨q1, ⟨q2, q3⟩, q4⟩
  have hl := h.lo
  exact ⟨q1, ⟨vs, q2, hf.hold, hf.inv⟩, ⟨cap, us, q3, hH⟩, hl, h.old.trans (bg_below q4 hl.1 hl.2.1 h.old.size)⟩
end
end Go.Proofs.YtcaofdbcgdgbbaaGreatDoor
