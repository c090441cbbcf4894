/- The reference of package exoenv: Kill. -/
import Derived.Test.YteealgnclpfmkaaRfB
namespace Go.Proofs.Yteealgnclpfmkaa
open Go.RowKit
set_option linter.unusedVariables false

/-- All but one. -/
def lK (L : List Int) (n : Int) : List Int := L.filter (fun x => x != n)
theorem lK_len (L : List Int) (n : Int) : (lK L n).length ≤ L.length := List.length_filter_le _ _
theorem lK_snoc (L : List Int) (n x : Int) : lK (L ++ [x]) n = if x = n then lK L n else lK L n ++ [x] := by
  unfold lK
  rw [List.filter_append]
  split
  · rename_i h; simp [h]
  · rename_i h; simp [h]
def rkillR (L : List Int) (n : Int) : Int := if L.contains n then 0 else 106
def rkillL (L : List Int) (n : Int) : List Int := if L.contains n then lK L n else L
def rkillV (L V : List Int) (n : Int) : List Int := if L.contains n then wo V n else V
def rkillU (L : List Int) (U : List (Int × Int)) (n : Int) : List (Int × Int) := if L.contains n then upK U n else U
section
variable {B c gv : Nat} {al : Option Addr} {cl cv : Nat} {au : Option Addr} {cu : Nat} {L V : List Int} {U : List (Int × Int)}
set_option maxHeartbeats 2000000 in
theorem rkill_at (n : Int) (w : World) (h : RfIs w B c gv al cl cv au cu L V U) (hL : L.length ≤ 100) (hU' : U.length ≤ 1000) :
    Calls Try.prog 12 #[.pointer (some ⟨c, 0, none⟩), .int .i64 n] w fun e w' => e = .returned (.int .i64 (rkillR L n)) ∧ RfAt w' B c gv (rkillL L n) (rkillV L V n) (rkillU L U n) ∧ UpdP (Its c gv) w w' := by
  obtain ⟨i0, hi0, hzz⟩ := Option.map_eq_some_iff.1 intInfo
  simp only [Prod.mk.injEq] at hzz
  obtain ⟨hz0, hz1, hz2⟩ := hzz
  have HR : Hid _ := h
  have hlc := h.ltc
  have hlg := h.ltg
  have hbc := h.bc
  have hvl := h.len
  have hI := ris_at n w h hL
  cases hc : L.contains n with
  | false =>
    have H1 : Hid (rkillR L n = 106) := by show _ = _; unfold rkillR; rw [hc]; rfl
    have H2 : Hid (rkillL L n = L) := by show _ = _; unfold rkillL; rw [hc]; rfl
    have H3 : Hid (rkillV L V n = V) := by show _ = _; unfold rkillV; rw [hc]; rfl
    have H4 : Hid (rkillU L U n = U) := by show _ = _; unfold rkillU; rw [hc]; rfl
    rw [hc] at hI
    clear h hc
    go_enter Try.func12, Try.ntmps12
    go_wp2_with (go_at_call 22; refine hI.mono ?_; rintro e w1 ⟨rfl, hw⟩; rw [hw]; clear hw w1)
    go_ret
    exact ⟨by rw [H1.out]; rfl, by rw [H2.out, H3.out, H4.out]; exact ⟨_, _, _, _, _, HR.out⟩, UpdP.refl _ _⟩
  | true =>
    have H1 : Hid (rkillR L n = 0) := by show _ = _; unfold rkillR; rw [hc]; rfl
    have H2 : Hid (rkillL L n = lK L n) := by show _ = _; unfold rkillL; rw [hc]; rfl
    have H3 : Hid (rkillV L V n = wo V n) := by show _ = _; unfold rkillV; rw [hc]; rfl
    have H4 : Hid (rkillU L U n = upK U n) := by show _ = _; unfold rkillU; rw [hc]; rfl
    rw [hc] at hI
    clear h hc
    obtain ⟨ll, hll⟩ : ∃ ll, ll = L.length := ⟨_, rfl⟩
    have HLL : Hid _ := hll
    rw [← hll] at hL
    clear hll
    go_enter Try.func12, Try.ntmps12
    go_wp2_with (go_at_call 22; refine hI.mono ?_; rintro e w1 ⟨rfl, hw⟩; rw [hw]; clear hw w1)
    clear hI
    go_loopw [5, 6] (fun s5 s6 wr => ∃ (i : Nat) (v : Value), i ≤ ll ∧ v = s5 ∧ s6 = .int .i64 i ∧ wr.ownsRow w.heap.size 3 1 v (lK (L.take i) n).length (ivs (lK (L.take i) n)) ∧ Below w.heap.size w wr) (fun _ s6 _ => ll - (intOf s6).toNat)
    case atStart => exact ⟨0, _, by omega, rfl, rfl, World.ownsRow_nil _ _ _ _, Below.refl _ _⟩
    case round =>
      obtain ⟨i, v, hi, rfl, rfl, hown, hb⟩ := hrel
      have hR := RfIs.below HR.out hb
      obtain ⟨c0, _, _⟩ := hR.cells
      rw [← HLL.out] at c0
      have hws := hb.size
      have HO : Hid _ := hown
      have HB : Hid _ := hb
      by_cases hlt : i < ll
      · obtain ⟨x, hu⟩ : ∃ u, L[i]? = some u := ⟨L[i]'(by rw [← HLL.out]; exact hlt), List.getElem?_eq_getElem _⟩
        obtain ⟨gb, off, rfl, _, d0⟩ := hR.lrow i x hu
        have hii : (i : Int) < (ll : Int) := by omega
        have HT : Hid (L.take (i + 1) = L.take i ++ [x]) := take_snoc hu
        by_cases he : x = n
        · have ge : (x != n) = false := by simp [he]
          have HK : Hid (lK (L.take (i + 1)) n = lK (L.take i) n) := by show _ = _; rw [HT.out, lK_snoc, if_pos he]
          clear hR hown hb hu he
          go_wp2
          go_roundw
          case rel => exact ⟨i + 1, _, by omega, rfl, by go_num, by rw [HK.out]; exact HO.out, HB.out⟩
          case measure => simp [intOf]; omega
        · have ge : (x != n) = true := by simp [he]
          have HK : Hid (lK (L.take (i + 1)) n = lK (L.take i) n ++ [x]) := by show _ = _; rw [HT.out, lK_snoc, if_neg he]
          have HOA : Hid (∀ o, (wr.alloc o).ownsRow w.heap.size 3 1 v (lK (L.take i) n).length (ivs (lK (L.take i) n))) := fun o => hown.alloc o
          have hkl : (lK (L.take i) n).length ≤ i := Nat.le_trans (lK_len _ _) (by simp; omega)
          clear hR hown hb hu he HT
          generalize lK (L.take i) n = D at *
          go_wp2_with (at_builtin; refine wpList_append_lies _ rfl _ _ _ rfl w.heap.size 3 i0 _ 1 8 Try.underlying41 hi0 hz0 hz1 hz2 rfl (by omega) v D.length (ivs D) rfl (HOA.out _) ⟨wr.heap.size, 0, none⟩ 1 1 [.int .i64 x] rfl rfl (World.news_of_block (cs := #[.int .i64 x]) (t := 3) (fr := (0, 0)) (heap_alloc_new _ _)) (by simp [Value.oneCell']) (by omega) (by unfold maxLen; omega) (by omega) (by simp; omega) _ rfl ?_; intro gg capx w2 hown2 hgrow hat hlt2)
          go_roundw
          case rel =>
            refine ⟨i + 1, _, by omega, rfl, by go_num, ?_, (HB.out.alloc hws _).trans (below_grown hgrow (by simp; omega) (ownsRow_low HO.out))⟩
            rw [HK.out, ivs_app, List.length_append]
            exact hown2
          case measure => simp [intOf]; omega
      · obtain rfl : i = ll := by omega
        have HT : Hid (L.take i = L) := by show _ = _; rw [HLL.out]; simp
        rw [HT.out] at hown HO
        obtain ⟨av, capv, rfl, -, -⟩ := own_prow hown
        have f0 := hR.freec 0
        obtain ⟨al', cl', hR2⟩ := hR.setL hown hlc hlg (by omega)
        have HR2 : Hid _ := hR2
        have HU : Hid (UpdP (Its c gv) w (wr.setCell ⟨c, 0, none⟩ (.slice av (lK L n).length capv))) := (UpdP.of_below hb).trans (its_c c gv 0 wr _)
        clear hR hown hb hR2 HO HB HR
        go_wp2
        clear c0 f0
        go_loopw [7] (fun s7 wz => ∃ (k : Nat), k ≤ V.length ∧ s7 = .int .i64 k ∧ RfIs wz B c gv al' cl' cv au cu (lK L n) (woTo V n k) U ∧ UpdP (Its c gv) w wz) (fun s7 _ => V.length - (intOf s7).toNat)
        case atStart => exact ⟨0, by omega, rfl, by rw [woTo_zero]; exact HR2.out, HU.out⟩
        case round =>
          clear HR2 HU
          obtain ⟨k, hk, rfl, hR, hU⟩ := hrel
          have HR : Hid _ := hR
          have HU : Hid _ := hU
          obtain ⟨_, c1, _⟩ := hR.cells
          rw [woTo_length] at c1
          by_cases hlt : k < V.length
          · obtain ⟨x, hx⟩ : ∃ x, V[k]? = some x := ⟨V[k], List.getElem?_eq_getElem hlt⟩
            have d1 := hR.vcell (woTo_get V n k k x hx (Nat.le_refl _))
            have f1 := hR.freeg k
            have hki : (k : Int) < (V.length : Int) := by omega
            by_cases e : x = n
            · have ge : (x == n) = true := by simp [e]
              have HN : Hid (woTo V n (k + 1) = (woTo V n k).set k (-1)) := woTo_hit V n k x hx e
              clear hR hU hx e
              go_wp2
              go_roundw
              case rel =>
                refine ⟨k + 1, by omega, by go_num, ?_, HU.out.trans (its_g c gv _ _ _)⟩
                rw [HN.out]
                exact HR.out.setV k (-1)
              case measure => simp [intOf]; omega
            · have ge : (x == n) = false := by simp [e]
              have HN : Hid (woTo V n (k + 1) = woTo V n k) := woTo_same V n k x hx e
              clear hR hU hx e
              go_wp2
              go_roundw
              case rel => exact ⟨k + 1, by omega, by go_num, by rw [HN.out]; exact HR.out, HU.out⟩
              case measure => simp [intOf]; omega
          · obtain rfl : k = V.length := by omega
            rw [woTo_all] at HR
            clear hR hU
            go_wp2_with fail
            refine (rupcall_at n _ HR.out hU').mono ?_
            rintro e w3 ⟨rfl, hA, hU3⟩
            have HA : Hid _ := hA
            have HU3 : Hid _ := HU.out.trans hU3
            clear hA hU3 HU HR
            go_wp2
            go_ret
            exact ⟨by rw [H1.out]; rfl, by rw [H2.out, H3.out, H4.out]; exact HA.out, HU3.out⟩
end
end Go.Proofs.Yteealgnclpfmkaa
