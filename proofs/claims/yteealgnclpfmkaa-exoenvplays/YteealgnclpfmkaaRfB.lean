/- The reference of package exoenv: Upcall, Fault, Slice, Pick. -/
import Derived.Test.YteealgnclpfmkaaRfA
namespace Go.Proofs.Yteealgnclpfmkaa
open Go.RowKit
set_option linter.unusedVariables false

theorem upInfo : (Try.prog.info? 60).map (fun i => (i.zero, i.size, i.bytes)) = some (some (.agg #[.int .i64 0, .int .u64 0]), 2, 16) := by kernel_rfl
/-- All but one's. -/
def upK (U : List (Int × Int)) (n : Int) : List (Int × Int) := U.filter (fun u => u.1 != n)
/-- The last of one's; 0 without one. -/
def upL (U : List (Int × Int)) (n : Int) : Int := U.foldl (fun a u => if u.1 = n then u.2 else a) 0
/-- Is there one's? -/
def upH (U : List (Int × Int)) (n : Int) : Bool := U.any (fun u => u.1 == n)
theorem take_snoc {α : Type} {U : List α} {i : Nat} {u : α} (h : U[i]? = some u) : U.take (i + 1) = U.take i ++ [u] := by
  obtain ⟨hl, rfl⟩ := List.getElem?_eq_some_iff.1 h
  simp
theorem upK_len (U : List (Int × Int)) (n : Int) : (upK U n).length ≤ U.length := List.length_filter_le _ _
theorem upK_snoc (U : List (Int × Int)) (n e a : Int) : upK (U ++ [(e, a)]) n = if e = n then upK U n else upK U n ++ [(e, a)] := by
  unfold upK
  rw [List.filter_append]
  split
  · rename_i h; simp [h]
  · rename_i h; simp [h]
theorem upL_snoc (U : List (Int × Int)) (n e a : Int) : upL (U ++ [(e, a)]) n = if e = n then a else upL U n := by
  unfold upL
  rw [List.foldl_append]
  rfl
theorem upH_snoc (U : List (Int × Int)) (n e a : Int) : upH (U ++ [(e, a)]) n = (upH U n || (e == n)) := by
  simp [upH]

section
variable {B c gv : Nat} {al : Option Addr} {cl cv : Nat} {au : Option Addr} {cu : Nat} {L V : List Int} {U : List (Int × Int)}
set_option maxHeartbeats 2000000 in
theorem rupcall_at (n : Int) (w : World) (h : RfIs w B c gv al cl cv au cu L V U) (hl : U.length ≤ 1000) :
    Calls Try.prog 20 #[.pointer (some ⟨c, 0, none⟩), .int .i64 n] w fun e w' => e = .returned (.tuple #[.int .u64 (upL U n), .bool (upH U n)]) ∧ RfAt w' B c gv L V (upK U n) ∧ UpdP (Its c gv) w w' := by
  obtain ⟨i0, hi0, hzz⟩ := Option.map_eq_some_iff.1 upInfo
  simp only [Prod.mk.injEq] at hzz
  obtain ⟨hz0, hz1, hz2⟩ := hzz
  have HR : Hid _ := h
  have hlc := h.ltc
  have hlg := h.ltg
  have hbc := h.bc
  obtain ⟨ul, hul⟩ : ∃ ul, ul = U.length := ⟨_, rfl⟩
  have HUL : Hid _ := hul
  rw [← hul] at hl
  clear h hul
  go_enter Try.func20, Try.ntmps20
  go_wp2
  go_loopw [6, 7, 8, 9] (fun s6 s7 s8 s9 wr => ∃ (i : Nat) (v : Value) (x : Int) (y : Bool), i ≤ ul ∧ v = s6 ∧ s7 = .int .u64 x ∧ s8 = .bool y ∧ s9 = .int .i64 i ∧ Hid (x = upL (U.take i) n ∧ y = upH (U.take i) n) ∧ wr.ownsRow w.heap.size 60 2 v (upK (U.take i) n).length (upc (upK (U.take i) n)) ∧ Below w.heap.size w wr) (fun _ _ _ s9 _ => ul - (intOf s9).toNat)
  case atStart => exact ⟨0, _, _, _, by omega, rfl, rfl, rfl, rfl, (show Hid _ from ⟨rfl, rfl⟩), World.ownsRow_nil _ _ _ _, Below.refl _ _⟩
  case round =>
    obtain ⟨i, v, x, y, hi, rfl, rfl, rfl, rfl, HX, hown, hb⟩ := hrel
    have hR := RfIs.below HR.out hb
    obtain ⟨_, _, c2⟩ := hR.cells
    rw [← HUL.out] at c2
    have hws := hb.size
    have HO : Hid _ := hown
    have HB : Hid _ := hb
    by_cases hlt : i < ul
    · obtain ⟨⟨e, a⟩, hu⟩ : ∃ u, U[i]? = some u := ⟨U[i]'(by rw [← HUL.out]; exact hlt), List.getElem?_eq_getElem _⟩
      obtain ⟨gb, off, rfl, _, d0, d1⟩ := hR.urow i e a hu
      have hii : (i : Int) < (ul : Int) := by omega
      have HT : Hid (U.take (i + 1) = U.take i ++ [(e, a)]) := take_snoc hu
      by_cases he : e = n
      · have ge : (e == n) = true := by simp [he]
        have HX2 : Hid (a = upL (U.take (i + 1)) n ∧ true = upH (U.take (i + 1)) n) := by
          show _ ∧ _
          rw [HT.out, upL_snoc, upH_snoc, if_pos he, ge]
          simp
        have HK : Hid (upK (U.take (i + 1)) n = upK (U.take i) n) := by show _ = _; rw [HT.out, upK_snoc, if_pos he]
        clear hR hown hb hu he HX
        go_wp2
        go_roundw
        case rel => exact ⟨i + 1, _, _, _, by omega, rfl, rfl, rfl, by go_num, HX2, by rw [HK.out]; exact HO.out, HB.out⟩
        case measure => simp [intOf]; omega
      · have ge : (e == n) = false := by simp [he]
        have HX2 : Hid (x = upL (U.take (i + 1)) n ∧ y = upH (U.take (i + 1)) n) := by
          show _ ∧ _
          rw [HT.out, upL_snoc, upH_snoc, if_neg he, ge, Bool.or_false]
          exact HX.out
        have HK : Hid (upK (U.take (i + 1)) n = upK (U.take i) n ++ [(e, a)]) := by show _ = _; rw [HT.out, upK_snoc, if_neg he]
        have HOA : Hid (∀ o, (wr.alloc o).ownsRow w.heap.size 60 2 v (upK (U.take i) n).length (upc (upK (U.take i) n))) := fun o => hown.alloc o
        have hkl : (upK (U.take i) n).length ≤ i := Nat.le_trans (upK_len _ _) (by simp; omega)
        clear hR hown hb hu he HX HT
        generalize upK (U.take i) n = D at *
        go_wp2_with (at_builtin; refine wpList_append_lies _ rfl _ _ _ rfl w.heap.size 60 i0 _ 2 16 Try.underlying43 hi0 hz0 hz1 hz2 rfl (by omega) v D.length (upc D) rfl (HOA.out _) ⟨wr.heap.size, 0, none⟩ 1 1 [.int .i64 e, .int .u64 a] rfl rfl (World.news_of_block (cs := #[.int .i64 e, .int .u64 a]) (t := 60) (fr := (0, 0)) (heap_alloc_new _ _)) (by simp [Value.oneCell']) (by omega) (by unfold maxLen; omega) (by omega) (by simp; omega) _ rfl ?_; intro gg capx w2 hown2 hgrow hat hlt2)
        go_roundw
        case rel =>
          refine ⟨i + 1, _, _, _, by omega, rfl, rfl, rfl, by go_num, HX2, ?_, (HB.out.alloc hws _).trans (below_grown hgrow (by simp; omega) (ownsRow_low HO.out))⟩
          rw [HK.out, upc_app, List.length_append]
          exact hown2
        case measure => simp [intOf]; omega
    · obtain rfl : i = ul := by omega
      have HT : Hid (U.take i = U) := by show _ = _; rw [HUL.out]; simp
      rw [HT.out] at HX hown HO
      obtain ⟨av, capv, rfl, -⟩ := own_pup hown
      have f2 := hR.freec 2
      obtain ⟨au', cu', hR2⟩ := hR.setU hown hlc hlg (by omega)
      have HR2 : Hid _ := hR2
      have HU : Hid (UpdP (Its c gv) w (wr.setCell ⟨c, 2, none⟩ (.slice av (upK U n).length capv))) := (UpdP.of_below hb).trans (its_c c gv 2 wr _)
      clear hR hown hb hR2 HO
      go_wp2
      go_ret2
      exact ⟨by rw [← HX.out.1, ← HX.out.2]; rfl, ⟨_, _, _, _, _, HR2.out⟩, HU.out⟩

def rfaultR (L : List Int) (U : List (Int × Int)) (n : Int) : Int := if L.contains n then (if upH U n then 105 else 0) else 106
def rfaultU (L : List Int) (U : List (Int × Int)) (n a : Int) : List (Int × Int) := if L.contains n && !upH U n then U ++ [(n, a)] else U
theorem upH_no {U : List (Int × Int)} {n : Int} (h : ∀ (j : Nat) (e a : Int), j < U.length → U[j]? = some (e, a) → e ≠ n) : upH U n = false := by
  unfold upH
  rw [List.any_eq_false]
  rintro ⟨e, a⟩ hu
  obtain ⟨j, hj⟩ := List.mem_iff_getElem?.1 hu
  have := h j e a (List.getElem?_eq_some_iff.1 hj).1 hj
  simpa using this
theorem upH_yes {U : List (Int × Int)} {n : Int} {j : Nat} {a : Int} (h : U[j]? = some (n, a)) : upH U n = true := by
  unfold upH
  rw [List.any_eq_true]
  exact ⟨(n, a), List.mem_of_getElem? h, by simp⟩
set_option maxRecDepth 100000 in
set_option maxHeartbeats 2000000 in
theorem rfault_at (n a : Int) (w : World) (h : RfIs w B c gv al cl cv au cu L V U) (hL : L.length ≤ 100) (hl : U.length ≤ 1000) :
    Calls Try.prog 18 #[.pointer (some ⟨c, 0, none⟩), .int .i64 n, .int .u64 a] w fun e w' => e = .returned (.int .i64 (rfaultR L U n)) ∧ RfAt w' B c gv L V (rfaultU L U n a) ∧ UpdP (Its c gv) w w' := by
  obtain ⟨i0, hi0, hzz⟩ := Option.map_eq_some_iff.1 upInfo
  simp only [Prod.mk.injEq] at hzz
  obtain ⟨hz0, hz1, hz2⟩ := hzz
  have HR : Hid _ := h
  have hlc := h.ltc
  have hlg := h.ltg
  have hbc := h.bc
  have hI := ris_at n w h hL
  obtain ⟨_, _, c2⟩ := h.cells
  cases hc : L.contains n with
  | false =>
    have H1 : Hid (rfaultR L U n = 106) := by show _ = _; unfold rfaultR; rw [hc]; rfl
    have H2 : Hid (rfaultU L U n a = U) := by show _ = _; unfold rfaultU; rw [hc]; rfl
    rw [hc] at hI
    clear h hc
    go_enter Try.func18, Try.ntmps18
    go_wp2_with (go_at_call 22; refine hI.mono ?_; rintro e w1 ⟨rfl, hw⟩; rw [hw]; clear hw w1)
    go_ret
    exact ⟨by rw [H1.out]; rfl, by rw [H2.out]; exact ⟨_, _, _, _, _, HR.out⟩, UpdP.refl _ _⟩
  | true =>
    rw [hc] at hI
    have HC : Hid _ := hc
    clear h hc
    go_enter Try.func18, Try.ntmps18
    go_wp2_with (go_at_call 22; refine hI.mono ?_; rintro e w1 ⟨rfl, hw⟩; rw [hw]; clear hw w1)
    go_loopw [7] (fun s wr => ∃ (i : Nat), i ≤ U.length ∧ s = .int .i64 i ∧ Hid (∀ (j : Nat) (e x : Int), j < i → U[j]? = some (e, x) → e ≠ n) ∧ wr = w) (fun s _ => U.length - (intOf s).toNat)
    case atStart => exact ⟨0, by omega, rfl, (show Hid _ from fun j e x hj => absurd hj (Nat.not_lt_zero _)), rfl⟩
    case round =>
      obtain ⟨i, hi, rfl, HN, hwr⟩ := hrel
      subst hwr
      by_cases hlt : i < U.length
      · obtain ⟨⟨e, x⟩, hu⟩ : ∃ u, U[i]? = some u := ⟨U[i], List.getElem?_eq_getElem hlt⟩
        obtain ⟨gb, off, rfl, _, d0, d1⟩ := HR.out.urow i e x hu
        have hii : (i : Int) < (U.length : Int) := by omega
        by_cases he : e = n
        · have ge : (e == n) = true := by simp [he]
          have HH : Hid (upH U n = true) := by show _ = _; rw [he] at hu; exact upH_yes hu
          have H1 : Hid (rfaultR L U n = 105) := by show _ = _; unfold rfaultR; rw [HC.out, HH.out]; rfl
          have H2 : Hid (rfaultU L U n a = U) := by show _ = _; unfold rfaultU; rw [HC.out, HH.out]; rfl
          clear hu he HN
          go_wp2
          go_ret
          exact ⟨by rw [H1.out]; rfl, by rw [H2.out]; exact ⟨_, _, _, _, _, HR.out⟩, UpdP.refl _ _⟩
        · have ge : (e == n) = false := by simp [he]
          have HM : Hid (∀ (j : Nat) (e x : Int), j < i + 1 → U[j]? = some (e, x) → e ≠ n) := by
            intro j e2 x2 hj hy
            by_cases ej : j = i
            · rw [ej, hu] at hy
              cases hy
              exact he
            · exact HN.out j e2 x2 (by omega) hy
          clear hu he HN
          go_wp2
          go_roundw
          case rel => exact ⟨i + 1, by omega, by go_num, HM, by first | rfl | trivial⟩
          case measure => simp [intOf]; omega
      · obtain rfl : i = U.length := by omega
        have HH : Hid (upH U n = false) := upH_no HN.out
        have H1 : Hid (rfaultR L U n = 0) := by show _ = _; unfold rfaultR; rw [HC.out, HH.out]; rfl
        have H2 : Hid (rfaultU L U n a = U ++ [(n, a)]) := by show _ = _; unfold rfaultU; rw [HC.out, HH.out]; rfl
        have HS : Hid (∀ (w2 : World) (v : Value), Below wr.heap.size wr w2 → w2.ownsRow wr.heap.size 60 2 v (U ++ [(n, a)]).length (upc (U ++ [(n, a)])) → RfAt (w2.setCell ⟨c, 2, none⟩ v) B c gv L V (U ++ [(n, a)]) ∧ UpdP (Its c gv) wr (w2.setCell ⟨c, 2, none⟩ v)) := by
          intro w2 v hb2 ho2
          obtain ⟨au', cu', hR2⟩ := (HR.out.below hb2).setU ho2 hlc hlg (by omega)
          exact ⟨⟨_, _, _, _, _, hR2⟩, (UpdP.of_below hb2).trans (its_c c gv 2 w2 _)⟩
        have HF : Hid (∀ w2, Below wr.heap.size wr w2 → w2.cell? ⟨c, 2, none⟩ = some (.slice au U.length cu) ∧ w2.frozen? ⟨c, 2, none⟩ = false) := fun w2 hb2 => ⟨(HR.out.below hb2).cells.2.2, (HR.out.below hb2).freec 2⟩
        by_cases h0 : U.length = 0
        · have HE : Hid (U = []) := List.eq_nil_of_length_eq_zero h0
          have hZ : ∀ (V : World) ty, (Builtin.append_ #[43, 43] ty #[.slice none 0 0, .slice au 0 cu]).run Try.prog V = .ok (.slice none 0 0) V := fun V ty => run_append_zero V _ _ i0 Try.underlying43 hi0 _ _ _ _ _ (Nat.le_refl _) ty
          rw [h0] at c2 hl
          have HZ : Hid _ := hZ
          rw [h0]
          rw [HE.out] at HS HF
          clear hZ HN HR h0
          have hon : ∀ (q : World), q.ownsRow wr.heap.size 60 2 (.slice none 0 0) 0 [] := fun q => World.ownsRow_nil _ _ _ _
          go_wp2_with (first | (at_builtin; refine wpList_append_eq rfl (.const (.slice none 0 0)) (.tmp 35) _ rfl (.slice none 0 0) (.slice au 0 cu) (.slice none 0 0) rfl rfl (HZ.out _) ?_) | (at_builtin; refine wpList_append_lies _ rfl (.tmp 36) (.tmp 40) _ rfl wr.heap.size 60 i0 _ 2 16 Try.underlying43 hi0 hz0 hz1 hz2 rfl (by omega) (.slice none 0 0) 0 [] rfl (hon _) ⟨wr.heap.size, 0, none⟩ 1 1 [.int .i64 n, .int .u64 a] rfl rfl (World.news_of_block (cs := #[.int .i64 n, .int .u64 a]) (t := 60) (fr := (0, 0)) (heap_alloc_new _ _)) (by simp [Value.oneCell']) (by omega) (by unfold maxLen; omega) (by omega) (by simp) _ rfl ?_; intro gg capx w2 hown2 hgrow hat hlt2; have B2 : Below wr.heap.size wr w2 := (below_alloc _ _).trans (below_grown hgrow (by simp) (ownsRow_low (hon wr))); obtain ⟨x1, x2⟩ := HF.out w2 B2))
          go_ret
          obtain ⟨p1, p2⟩ := HS.out w2 _ B2 hown2
          refine ⟨by rw [H1.out]; rfl, ?_, p2⟩
          rw [H2.out, HE.out]
          exact p1
        · obtain ⟨ad, rfl, hnw⟩ := HR.out.urow.news (by omega)
          have HNW : Hid _ := hnw
          have HUL : Hid ((upc U).length = U.length * 2) := upc_len U
          have HU1 : Hid _ := upc_one U
          have hon : ∀ (q : World), q.ownsRow wr.heap.size 60 2 (.slice none 0 0) 0 [] := fun q => World.ownsRow_nil _ _ _ _
          clear HN HR hnw
          go_wp2_with (first | (at_builtin; refine wpList_append_lies _ rfl (.const (.slice none 0 0)) (.tmp 35) _ rfl wr.heap.size 60 i0 _ 2 16 Try.underlying43 hi0 hz0 hz1 hz2 rfl (by omega) (.slice none 0 0) 0 [] rfl (hon _) ad U.length cu (upc U) rfl HUL.out HNW.out HU1.out (by omega) (by unfold maxLen; omega) (by omega) (Nat.le_refl _) _ rfl ?_; intro g1 cap1 w1 hown1 hgrow1 hat1 hlt1; rw [Nat.zero_add] at hown1 ⊢; have B1 : Below wr.heap.size wr w1 := below_grown hgrow1 (Nat.le_refl _) (ownsRow_low (hon wr)); have S1 := B1.size) | (at_builtin; refine wpList_append_lies _ rfl (.tmp 36) (.tmp 40) _ rfl wr.heap.size 60 i0 _ 2 16 Try.underlying43 hi0 hz0 hz1 hz2 rfl (by omega) (.slice (some ⟨g1, 0, none⟩) U.length cap1) U.length (upc U) rfl (World.ownsRow.alloc hown1 _) ⟨w1.heap.size, 0, none⟩ 1 1 [.int .i64 n, .int .u64 a] rfl rfl (World.news_of_block (cs := #[.int .i64 n, .int .u64 a]) (t := 60) (fr := (0, 0)) (heap_alloc_new _ _)) (by simp [Value.oneCell']) (by omega) (by unfold maxLen; omega) (by omega) (by simp; omega) _ rfl ?_; intro gg capx w2 hown2 hgrow hat hlt2; have B2 : Below wr.heap.size wr w2 := (B1.alloc S1 _).trans (below_grown hgrow (by simp; omega) (ownsRow_low hown1)); obtain ⟨x1, x2⟩ := HF.out w2 B2))
          go_ret
          obtain ⟨p1, p2⟩ := HS.out w2 (.slice (some ⟨gg, 0, none⟩) (U.length + 1) capx) B2 (by rw [upc_app, List.length_append]; exact hown2)
          refine ⟨by rw [H1.out]; rfl, ?_, p2⟩
          rw [H2.out]
          exact p1

def rsliceR (L V : List Int) (s n : Int) : Int := if 0 ≤ s ∧ s < V.length then (if n = -1 ∨ L.contains n = true then 0 else 106) else 101
def rsliceV (L V : List Int) (s n : Int) : List Int := if (0 ≤ s ∧ s < V.length) ∧ (n = -1 ∨ L.contains n = true) then V.set s.toNat n else V
theorem rslice_at (s n : Int) (w : World) (h : RfIs w B c gv al cl cv au cu L V U) (hL : L.length ≤ 100) :
    Calls Try.prog 14 #[.pointer (some ⟨c, 0, none⟩), .int .i64 s, .int .i64 n] w fun e w' => e = .returned (.int .i64 (rsliceR L V s n)) ∧ RfAt w' B c gv L (rsliceV L V s n) U ∧ UpdP (Its c gv) w w' := by
  have hI := ris_at n w h hL
  have HR : Hid _ := h
  obtain ⟨_, c1, _⟩ := h.cells
  have hl := h.len
  by_cases hs : 0 ≤ s ∧ s < V.length
  · obtain ⟨j, rfl⟩ : ∃ j : Nat, s = j := ⟨s.toNat, by omega⟩
    have hj : j < V.length := by omega
    have g0 : decide ((j : Int) < 0) = false := decide_eq_false (by omega)
    have g1 : decide ((V.length : Int) ≤ (j : Int)) = false := decide_eq_false (by omega)
    have hji : (j : Int) < (V.length : Int) := by omega
    have d1 := h.vcell (List.getElem?_eq_getElem hj)
    have f1 := h.freeg j
    by_cases hn : n = -1
    · subst hn
      have H1 : Hid (rsliceR L V j (-1) = 0) := by show _ = _; unfold rsliceR; rw [if_pos hs, if_pos (Or.inl rfl)]
      have H2 : Hid (rsliceV L V j (-1) = V.set j (-1)) := by show _ = _; unfold rsliceV; rw [if_pos ⟨hs, Or.inl rfl⟩]; rfl
      clear h hI hs
      go_enter Try.func14, Try.ntmps14
      go_wp2
      go_ret
      refine ⟨by rw [H1.out]; rfl, ?_, its_g c gv _ _ _⟩
      rw [H2.out]
      exact ⟨_, _, _, _, _, HR.out.setV j (-1)⟩
    · have ge : (n != -1) = true := by simp [hn]
      cases hb : L.contains n with
      | true =>
        have H1 : Hid (rsliceR L V j n = 0) := by show _ = _; unfold rsliceR; rw [if_pos hs, if_pos (Or.inr hb)]
        have H2 : Hid (rsliceV L V j n = V.set j n) := by show _ = _; unfold rsliceV; rw [if_pos ⟨hs, Or.inr hb⟩]; rfl
        rw [hb] at hI
        clear h hs hb hn
        go_enter Try.func14, Try.ntmps14
        go_wp2_with (go_at_call 22; refine hI.mono ?_; rintro e w1 ⟨rfl, hw⟩; rw [hw]; clear hw w1)
        go_ret
        refine ⟨by rw [H1.out]; rfl, ?_, its_g c gv _ _ _⟩
        rw [H2.out]
        exact ⟨_, _, _, _, _, HR.out.setV j n⟩
      | false =>
        have H1 : Hid (rsliceR L V j n = 106) := by show _ = _; unfold rsliceR; rw [if_pos hs, if_neg (by rw [hb]; simp [hn])]
        have H2 : Hid (rsliceV L V j n = V) := by show _ = _; unfold rsliceV; rw [if_neg (by rw [hb]; simp [hn])]
        rw [hb] at hI
        clear h hs hb hn
        go_enter Try.func14, Try.ntmps14
        go_wp2_with (go_at_call 22; refine hI.mono ?_; rintro e w1 ⟨rfl, hw⟩; rw [hw]; clear hw w1)
        go_ret
        exact ⟨by rw [H1.out]; rfl, by rw [H2.out]; exact ⟨_, _, _, _, _, HR.out⟩, UpdP.refl _ _⟩
  · have H1 : Hid (rsliceR L V s n = 101) := by show _ = _; unfold rsliceR; rw [if_neg hs]
    have H2 : Hid (rsliceV L V s n = V) := by show _ = _; unfold rsliceV; rw [if_neg (fun q => hs q.1)]
    by_cases h0 : s < 0
    · have g0 : decide (s < 0) = true := decide_eq_true h0
      clear h hs hI
      go_enter Try.func14, Try.ntmps14
      go_wp2
      go_ret
      exact ⟨by rw [H1.out]; rfl, by rw [H2.out]; exact ⟨_, _, _, _, _, HR.out⟩, UpdP.refl _ _⟩
    · have g0 : decide (s < 0) = false := decide_eq_false h0
      have g1 : decide ((V.length : Int) ≤ s) = true := decide_eq_true (by omega)
      clear h hs hI
      go_enter Try.func14, Try.ntmps14
      go_wp2
      go_ret
      exact ⟨by rw [H1.out]; rfl, by rw [H2.out]; exact ⟨_, _, _, _, _, HR.out⟩, UpdP.refl _ _⟩

theorem rpick_at (n : Int) (w : World) (h : RfIs w B c gv al cl cv au cu L V U) :
    Calls Try.prog 16 #[.pointer (some ⟨c, 0, none⟩), .int .i64 n] w fun e w' => e = .returned (.int .i64 (pickA V n)) ∧ w' = w := by
  obtain ⟨_, c0, _⟩ := h.cells
  have hl := h.len
  have hp := h.pos
  obtain ⟨ht1, ht2⟩ := pick_tmod n V.length hp
  have hb1 := Int.tmod_lt_of_pos n (b := (V.length : Int)) (by omega)
  have hb2 := Int.lt_tmod_of_pos n (b := (V.length : Int)) (by omega)
  obtain ⟨i, hi⟩ : ∃ i, i = (n % (V.length : Int)).toNat := ⟨_, rfl⟩
  have HP : Hid (pickA V n = V.getD i 0) := by show _ = _; rw [hi]; rfl
  rw [← hi] at ht1 ht2
  have hv : i < V.length := by
    rcases Int.lt_or_le (n.tmod V.length) 0 with q | q
    · exact (ht1 q).2
    · exact (ht2 (by omega)).2
  have c1 := h.vcell (List.getElem?_eq_getElem hv)
  have HX : Hid (V.getD i 0 = V[i]) := by show _ = _; simp [hv]
  generalize V[i] = x at *
  have ge : ((V.length : Int) == 0) = false := beq_false_of_ne (by omega)
  clear h hi
  by_cases hr : n.tmod (V.length : Int) < 0
  · obtain ⟨h1, -⟩ := ht1 hr
    have g0 : decide (n.tmod (V.length : Int) < 0) = true := decide_eq_true hr
    go_enter Try.func16, Try.ntmps16
    go_wp2
    go_ret
    exact ⟨by rw [HP.out, HX.out]; rfl, rfl⟩
  · obtain ⟨h1, -⟩ := ht2 hr
    have g0 : decide (n.tmod (V.length : Int) < 0) = false := decide_eq_false hr
    go_enter Try.func16, Try.ntmps16
    go_wp2
    go_ret
    exact ⟨by rw [HP.out, HX.out]; rfl, rfl⟩
end
end Go.Proofs.Yteealgnclpfmkaa
