/- The contract of the reference's Depths. -/
import Derived.Test.YtedkijionpkmmaaDec6
import Derived.BigQuiet
import Derived.Deep.LoopGhost
namespace Go.Proofs.Ytedkijionpkmmaa
open Go.RowKit
set_option linter.unusedVariables false

/-- What the reference has in hand: the depths in block G. -/
structure RH (w wr : World) (G cp : Nat) (D : List Int) : Prop where
  up : w.heap.size ≤ G
  own : wr.ownsRow w.heap.size 3 1 (.slice (some ⟨G, 0, none⟩) D.length cp) D.length (irow D)
  bel : Below w.heap.size w wr
theorem own_drewN {w : World} {B : Nat} {e : TypeId} {size : Nat} {v : Value} {n : Nat} {xs : List Value} (h : w.ownsRow B e size v n xs) (q : Nat) : (w.drewN q).ownsRow B e size v n xs := own_below h (below_drewN (Below.refl _ _) q)
theorem RH.lt {w wr : World} {G cp : Nat} {D : List Int} (h : RH w wr G cp D) : G < wr.heap.size := (h.own.lt G rfl).2
theorem RH.near {w wr w' : World} {G cp B : Nat} {D : List Int} (h : RH w wr G cp D) (hb : Below B wr w') (hB : G < B) : RH w w' G cp D := by
  refine ⟨h.up, ?_, h.bel.trans (hb.mono (by have := h.up; omega))⟩
  rcases h.own with ⟨h1, h2 | ⟨g, cap, cur, hv, hg, hh, r⟩⟩
  · exact ⟨h1, Or.inl h2⟩
  · cases hv
    exact ⟨h1, Or.inr ⟨G, cp, cur, rfl, hg, by rw [hb.block G hB]; exact hh, r⟩⟩
theorem RH.below {w wr w' : World} {G cp : Nat} {D : List Int} (h : RH w wr G cp D) (hb : Below wr.heap.size wr w') : RH w w' G cp D := h.near hb h.lt
theorem RH.cell {w wr : World} {G cp : Nat} {D : List Int} (h : RH w wr G cp D) {k : Nat} {x : Int} (hk : D[k]? = some x) : wr.cell? ⟨G, k, none⟩ = some (.int .i64 x) := by
  have := h.own.cells (g := G) rfl k (.int .i64 x) (by simp [irow, hk])
  rwa [addr_add] at this
theorem RH.frozen {w wr : World} {G cp : Nat} {D : List Int} (h : RH w wr G cp D) (k : Nat) : wr.frozen? ⟨G, k, none⟩ = false := h.own.frozenAt k
theorem RH.len {w wr : World} {G cp : Nat} {D : List Int} (h : RH w wr G cp D) : D.length ≤ cp := by
  rcases h.own.2 with ⟨h2, _⟩ | ⟨g, cap, cur, hv, hg, hh, hn, _⟩
  · cases h2
  · cases hv
    exact hn
theorem RH.put {w wr : World} {G cp : Nat} {D : List Int} (h : RH w wr G cp D) (k : Nat) (d : Int) : RH w (wr.setCell ⟨G, k, none⟩ (.int .i64 d)) G cp (D.set k d) := by
  refine ⟨h.up, ?_, h.bel.setCell (p := ⟨G, k, none⟩) h.up _⟩
  have h1 := (h.own.stored k (.int .i64 d)).1
  have e : (irow D).set k (.int .i64 d) = irow (D.set k d) := by simp [irow, List.map_set]
  rw [e] at h1
  rw [List.length_set]
  exact h1
theorem RH.drewS {w wr : World} {G cp q k : Nat} {v : Value} {D : List Int} (h : RH w (wr.setCell ⟨G, k, none⟩ v) G cp D) : RH w ((wr.drewN q).setCell ⟨G, k, none⟩ v) G cp D :=
  h.below (below_drewN (Below.refl _ _) q)
theorem RH.irow {w wr : World} {G cp : Nat} {D : List Int} (h : RH w wr G cp D) : IRow wr (some ⟨G, 0, none⟩) D :=
  fun j x hj => ⟨G, 0, rfl, by rw [Nat.zero_add]; exact h.cell hj⟩
theorem own_cell {w : World} {B g n c : Nat} {T : List Int} {m : Nat} {y : Int} (h : w.ownsRow B 3 1 (.slice (some ⟨g, 0, none⟩) n c) n (irow T)) (hy : T[m]? = some y) : w.cell? ⟨g, m, none⟩ = some (.int .i64 y) := by
  have := h.cells (g := g) rfl m (.int .i64 y) (by simp [irow, hy])
  rwa [addr_add] at this
theorem closed_skip {l : List Ins} {D : List Int} {k : Nat} {x : Int} (h : Closed l D k) (hx : D[k]? = some x) (h0 : x < 0) : Closed l D (k + 1) := by
  intro j d y hj hd hd0 hy
  by_cases e : j = k
  · subst e
    rw [hx] at hd
    cases hd
    omega
  · exact h j d y (by omega) hd hd0 hy
theorem closed_step {l : List Ins} {D : List Int} {k : Nat} {x N : Int} {i : Ins} {T : List Int} (h : Closed l D k) (hx : D[k]? = some x) (hi : l[k]? = some i) (h0 : 0 ≤ x) (hr : (mv i).1 ≤ x ∧ nxt i x ≤ 32) (hN : nxt i x = N)
    (hT : ∀ y ∈ T, D[y.toNat]? = some N) (hall : (i.op ≠ 21 → ((k + 1 : Nat) : Int) ∈ T) ∧ ((i.op = 21 ∨ i.op = 22) → findP l i.arg ∈ T)) : Closed l D (k + 1) := by
  intro j d y hj hd hd0 hy
  by_cases e : j = k
  · subst e
    rw [hx] at hd
    cases hd
    rw [hi] at hy
    cases hy
    rw [hN]
    rw [hN] at hr
    refine ⟨hr, fun ho => ?_, fun ho f hf => ?_⟩
    · have := hT _ (hall.1 ho)
      rwa [Int.toNat_natCast] at this
    · have := hT _ (hall.2 ho)
      rw [hf, Int.toNat_natCast] at this
      exact this
  · exact h j d y (by omega) hd hd0 hy
/-- What the reference keeps, and that no depth is above the stack. -/
structure RI (l : List Ins) (D : List Int) : Prop extends RInv l D where
  high : ∀ x ∈ D, x ≤ 32
theorem RI.set {l : List Ins} {D : List Int} {k : Nat} {d x : Int} (h : RI l D) (hx : D[k]? = some x) (hr : Reach l k d) (hd : 0 ≤ d) (h32 : d ≤ 32) (hx0 : x < 0) : RI l (D.set k d) :=
  ⟨RInv.set h.toRInv hx hr hd hx0, fun y hy => by
    rcases set_mem hy with hy | rfl
    · exact h.high y hy
    · exact h32⟩
/-- What the reference's Depths answers. -/
def RTold (s : List UInt8) (e : Ending) (w' : World) : Prop :=
  (∃ l D b0 cb, Valid s l D ∧ e = .returned (.tuple #[.slice b0 l.length cb, .int .i64 0]) ∧ IRow w' b0 D) ∨ (Bad s ∧ e = .returned (.tuple #[.slice none 0 0, .int .i64 8]))
theorem nosol {s : List UInt8} {l : List Ins} (hd : decAt s 0 = some l) (h : ∀ D, ¬ Sol l D) : Bad s := by
  intro l' D hv
  have := hv.dec
  rw [hd] at this
  cases this
  exact h D hv.sol
theorem nostand {s : List UInt8} {l : List Ins} (hd : decAt s 0 = some l) {k : Nat} {i : Ins} (hi : l[k]? = some i) (h : standB l i = false) : Bad s := by
  intro l' D hv
  have := hv.dec
  rw [hd] at this
  cases this
  have := (standB_iff l i).2 (hv.stand i (List.mem_of_getElem? hi))
  rw [h] at this
  cases this
theorem irow_snoc (k : Nat) : irow (List.replicate k (-1)) ++ [.int .i64 (-1)] = irow (List.replicate (k + 1) (-1)) := by
  rw [List.replicate_succ']
  simp [irow]
theorem dec_short {s : List UInt8} {l : List Ins} (h : decAt s 0 = some l) : l.length ≤ s.length := by
  have e1 := (enc_dec s _ 0 (Nat.le_refl _) (by omega) l h).2
  have e2 : ∀ (l : List Ins), l.length ≤ (encs l).length := by
    intro l
    induction l with
    | nil => simp
    | cons i l ih =>
      have e : encs (i :: l) = enc1 i ++ encs l := rfl
      rw [e, List.length_append, enc1_len, List.length_cons]
      omega
  have e3 := e2 l
  rw [e1] at e3
  simpa using e3
theorem rstart (l : List Ins) (h : 1 ≤ l.length) : RI l ((List.replicate l.length (-1)).set 0 0) ∧ unm ((List.replicate l.length (-1)).set 0 0) + 1 = l.length := by
  have hz : (List.replicate l.length (-1 : Int))[0]? = some (-1) := by rw [List.getElem?_replicate, if_pos (by omega)]
  refine ⟨⟨⟨by simp, fun x hx => ?_, fun k d hk hd => ?_, set_at hz 0⟩, fun x hx => ?_⟩, ?_⟩
  · rcases set_mem hx with hx | rfl
    · rw [List.eq_of_mem_replicate hx]; decide
    · decide
  · rcases set_get hk with ⟨rfl, rfl⟩ | ⟨_, hk⟩
    · exact Reach.base
    · have := List.eq_of_mem_replicate (List.mem_of_getElem? hk)
      omega
  · rcases set_mem hx with hx | rfl
    · rw [List.eq_of_mem_replicate hx]; decide
    · decide
  · rw [unm_set hz (by decide)]
    simp [unm]

set_option maxHeartbeats 8000000 in
set_option maxRecDepth 100000 in
theorem rdepths_at (s : List UInt8) (hs : s.length ≤ 1000) (w : World) :
    Calls Try.prog 19 #[tx s] w fun e w' => RTold s e w' ∧ Below w.heap.size w w' := by
  have hsz : (ByteArray.mk s.toArray).size = s.length := by simp [ByteArray.size]
  obtain ⟨i0, hi0, hzz⟩ := Option.map_eq_some_iff.1 intInfo
  simp only [Prod.mk.injEq] at hzz
  obtain ⟨hz0, hz1, hz2⟩ := hzz
  have hdec := rdecode_at s (by omega) w
  cases hd : decAt s 0 with
  | none =>
    have HB : Hid (Bad s) := fun l D h => by have := h.dec; rw [hd] at this; cases this
    go_enter Try.func19, Try.ntmps19
    go_wp2_with fail
    refine hdec.mono ?_
    rintro e w1 ⟨hd1, hb1⟩
    unfold Decoded at hd1
    rw [hd] at hd1
    subst hd1
    clear hdec hd
    go_wp2
    go_ret2
    exact ⟨Or.inr ⟨HB.out, rfl⟩, hb1⟩
  | some l =>
    have hp := prog_of (by omega) hd
    have hl2 := dec_short hd
    have HP : Hid _ := hp
    have HV : Hid _ := hd
    clear hp
    go_enter Try.func19, Try.ntmps19
    go_wp2_with fail
    refine hdec.mono ?_
    rintro e w1 ⟨hd1, hbw1⟩
    unfold Decoded at hd1
    rw [hd] at hd1
    obtain ⟨a0, ca, rfl, hr1⟩ := hd1
    have HR : Hid _ := hr1
    clear hdec hd hr1
    by_cases h0 : s.length < 1
    · have HB : Hid (Bad s) := fun l D h => by have := h.size; omega
      go_wp2
      go_ret2
      exact ⟨Or.inr ⟨HB.out, rfl⟩, hbw1⟩
    by_cases h1 : 192 < s.length
    · have HB : Hid (Bad s) := fun l D h => by have := h.size; omega
      go_wp2
      go_ret2
      exact ⟨Or.inr ⟨HB.out, rfl⟩, hbw1⟩
    have hl1 : 1 ≤ l.length := List.length_pos_iff.2 (HP.out.some (by omega))
    go_wp2
    go_loopw [6, 7] (fun b c wr => ∃ (k : Nat) (u : Value), k ≤ l.length ∧ c = .int .i64 k ∧ u = b ∧ Hid ((l.take k).all (standB l) = true) ∧ wr.ownsRow w1.heap.size 3 1 u k (irow (List.replicate k (-1))) ∧ Below w1.heap.size w1 wr) (fun _ c _ => l.length - (intOf c).toNat)
    case atStart => exact ⟨0, _, by omega, rfl, rfl, (show Hid _ from rfl), World.ownsRow_nil _ _ _ _, Below.refl _ _⟩
    case round =>
      obtain ⟨k, u, hk, rfl, rfl, HA, hB, hb⟩ := hrel
      have hbs := hb.size
      by_cases hlt : k < l.length
      · obtain ⟨i, hki⟩ : ∃ i, l[k]? = some i := ⟨l[k], List.getElem?_eq_getElem hlt⟩
        have hfi := HP.out.fine i (List.mem_of_getElem? hki)
        have HK : Hid _ := hki
        clear hki
        go_wp2_with (at_builtin; refine wpList_append_lies _ rfl _ _ _ rfl w1.heap.size 3 i0 _ 1 8 Try.underlying39 hi0 hz0 hz1 hz2 rfl (by omega) u _ _ rfl (hB.alloc _) ⟨wr.heap.size, 0, none⟩ 1 1 [.int .i64 (-1)] rfl rfl (World.news_of_block (cs := #[.int .i64 (-1)]) (t := 3) (fr := (0, 0)) (heap_alloc_new wr _)) (by simp [Value.oneCell']) (by omega) (by unfold maxLen; omega) (by omega) (by simp; omega) _ rfl ?_)
        intro gg cap2 w2 hown2 hgrow hat hlt2
        have hbw2 : Below w1.heap.size w1 w2 := (hb.alloc hbs _).trans (below_grown hgrow (by simp; omega) (ownsRow_low hB))
        rw [irow_snoc] at hown2
        clear hgrow hat hlt2 hB hb hbs
        obtain ⟨ga, oa, ea, c0, c1, c2, c3⟩ := (Row.below HR.out hbw2) k i HK.out
        have hmv := rmv_at i hfi.1 w2
        have hrg := mv_range i
        dsimp only [insRow] at hmv
        have hyes : standB l i = true → Hid ((l.take (k + 1)).all (standB l) = true) := fun h => all_take_succ HK.out HA.out h
        have hno : standB l i = false → Hid (Bad s) := fun h => nostand HV.out HK.out h
        have hiff := standB_iff l i
        generalize hpe : (mv i).1 = p at *
        generalize hqe : (mv i).2 = q at *
        have HPQ : Hid _ := And.intro hpe hqe
        have HIFF : Hid _ := hiff
        clear hpe hqe hiff
        subst ea
        go_wp2_with fail
        refine hmv.mono ?_
        rintro e w3 ⟨rfl, hb3⟩
        have hbw3 := hbw2.trans (hb3.mono hbw2.size)
        have hown3 := own_below hown2 hb3
        clear hmv hown2 hb3 hbw2 c0 c1 c2 c3
        obtain ⟨ga', oa', ea, c0, c1, c2, c3⟩ := (Row.below HR.out hbw3) k i HK.out
        cases ea
        by_cases hp0 : p < 0
        · have HB := hno (by cases h : standB l i with | false => rfl | true => have := (HIFF.out.1 h).2; omega)
          clear hyes hno
          by_cases h21 : i.op = 21
          · have hb21 : (i.op == 21) = true := by simp [h21]
            clear h21
            go_wp2
            go_ret2
            exact ⟨Or.inr ⟨HB.out, rfl⟩, hbw1.trans (hbw3.mono hbw1.size)⟩
          · have hb21 : (i.op == 21) = false := by simpa using h21
            clear h21
            go_wp2
            go_ret2
            exact ⟨Or.inr ⟨HB.out, rfl⟩, hbw1.trans (hbw3.mono hbw1.size)⟩
        · by_cases hj : i.op = 21 ∨ i.op = 22
          · have hj1 : (i.op == 21) = true ∨ ((i.op == 21) = false ∧ (i.op == 22) = true) := by rcases hj with h | h <;> simp [h]
            have hfind := rfind_at l i.arg (some ⟨ga, oa, none⟩) ca w3 (Row.below HR.out hbw3) (by omega) (fun y hy => by have := HP.out.fine y hy; exact ⟨this.2.2.1, by have := this.2.2.2; omega⟩)
            by_cases hF : 0 ≤ findP l i.arg
            · have HY := hyes (HIFF.out.2 ⟨fun _ => hF, by omega⟩)
              clear hyes hno hj
              generalize findP l i.arg = F at *
              rcases hj1 with h1 | ⟨h1, h2⟩
              all_goals
                go_wp2_with fail
                refine hfind.mono ?_
                rintro e w4 ⟨rfl, hb4⟩
                have hown4 := own_below hown3 hb4
                have hbw4 := hbw3.trans (hb4.mono hbw3.size)
                go_wp2
                go_roundw
                case rel => exact ⟨k + 1, _, by omega, by go_num, rfl, HY, hown4, hbw4⟩
                case measure => simp [intOf]; omega
            · have HB := hno (by cases h : standB l i with | false => rfl | true => exact absurd ((HIFF.out.1 h).1 hj) hF)
              clear hyes hno hj
              generalize findP l i.arg = F at *
              rcases hj1 with h1 | ⟨h1, h2⟩
              all_goals
                go_wp2_with fail
                refine hfind.mono ?_
                rintro e w4 ⟨rfl, hb4⟩
                have hbw4 := hbw3.trans (hb4.mono hbw3.size)
                go_wp2
                go_ret2
                exact ⟨Or.inr ⟨HB.out, rfl⟩, hbw1.trans (hbw4.mono hbw1.size)⟩
          · have h21 : (i.op == 21) = false := by simp; omega
            have h22 : (i.op == 22) = false := by simp; omega
            have HY := hyes (HIFF.out.2 ⟨fun h => absurd h hj, by omega⟩)
            clear hyes hno hj
            go_wp2
            go_roundw
            case rel => exact ⟨k + 1, _, by omega, by go_num, rfl, HY, hown3, hbw3⟩
            case measure => simp [intOf]; omega
      · obtain rfl : k = l.length := by omega
        have hA := HA.out
        rw [List.take_length] at hA
        have HS : Hid (Stand l) := (stand_iff l).1 hA
        clear hA HA hlt
        obtain ⟨HI0, hun⟩ := rstart l hl1
        have HI0' : Hid _ := HI0
        clear HI0
        rcases hB.2 with ⟨_, e⟩ | ⟨G, cp, cur, rfl, hG, hh, hcap, _⟩
        · omega
        have hH0 : RH w1 wr G cp (List.replicate l.length (-1)) := ⟨hG, by rw [List.length_replicate]; exact hB, hb⟩
        have hc0 := hH0.cell (k := 0) (x := -1) (by rw [List.getElem?_replicate, if_pos (by omega)])
        have hf0 := hH0.frozen 0
        have hH1 := hH0.put 0 0
        clear hH0 hB hh hb hbs hk
        go_wp2
        go_loopg [11] (l.length + 1) (fun gk b wq => ∃ (D : List Int) (B : Bool), Value.bool B = b ∧ Hid (RI l D) ∧ RH w1 wq G cp D ∧ (B = true → unm D + 1 ≤ gk) ∧ Hid (B = false → Closed l D l.length))
        case atStart => exact ⟨_, true, rfl, HI0', hH1, (fun _ => by omega), (fun h => by cases h)⟩
        case round =>
          obtain ⟨D, B, rfl, HI, hH, hBk, HCL⟩ := hrel
          clear HI0' hH1 hun hc0 hf0
          cases B with
          | false =>
            have HSOL : Hid _ := HI.out.done HS.out (HCL.out (by simp))
            go_wp2
            go_ret2
            exact ⟨Or.inl ⟨l, D, _, _, ⟨by omega, HV.out, HS.out, HSOL.out⟩, rfl, hH.irow⟩, hbw1.trans (hH.bel.mono hbw1.size)⟩
          | true =>
            have hBk' := hBk rfl
            clear hBk HCL
            go_wp2
            go_loopg [11, 12] (l.length) (fun gi b c wq => ∃ (D1 : List Int) (B1 : Bool) (k : Nat), Value.bool B1 = b ∧ c = .int .i64 k ∧ k ≤ l.length ∧ l.length - k ≤ gi ∧ Hid (RI l D1) ∧ RH w1 wq G cp D1 ∧ Hid (B1 = true → unm D1 < unm D) ∧ Hid (unm D1 ≤ unm D) ∧ Hid (B1 = false → Closed l D1 k))
            case atStart => exact ⟨D, false, 0, rfl, rfl, Nat.zero_le _, Nat.le_refl _, HI, hH, (fun h => by cases h), Nat.le_refl _, (fun _ j d y hj => absurd hj (Nat.not_lt_zero _))⟩
            case round =>
              clear HI hH
              obtain ⟨D1, B1, k, rfl, rfl, hk, hgi, HI, hH, HB1, HU, HCL⟩ := hrel
              by_cases hlt : k < l.length
              · obtain ⟨i, hki⟩ : ∃ i, l[k]? = some i := ⟨l[k], List.getElem?_eq_getElem hlt⟩
                obtain ⟨x, hx⟩ : ∃ x, D1[k]? = some x := ⟨D1[k]'(by rw [HI.out.len]; exact hlt), List.getElem?_eq_getElem _⟩
                have cx := hH.cell hx
                have HK : Hid _ := hki
                have HX : Hid _ := hx
                clear hki hx
                by_cases hneg : x < 0
                · have HCL2 : Hid (B1 = false → Closed l D1 (k + 1)) := fun h => closed_skip (HCL.out h) HX.out hneg
                  go_wp2
                  go_roundg (l.length - (k + 1))
                  case measure => omega
                  case rel => exact ⟨D1, B1, k + 1, rfl, by go_num, by omega, Nat.le_refl _, HI, hH, HB1, HU, HCL2⟩
                · have HRE : Hid _ := HI.out.marks k x HX.out (by omega)
                  obtain ⟨ga, oa, ea, c0, c1, c2, c3⟩ := (Row.below HR.out hH.bel) k i HK.out
                  subst ea
                  have hfi := HP.out.fine i (List.mem_of_getElem? HK.out)
                  have hmv := rmv_at i hfi.1 wr
                  have hrg := mv_range i
                  have hx36 : x ≤ 32 := HI.out.high x (List.mem_of_getElem? HX.out)
                  dsimp only [insRow] at hmv
                  have HSD : Hid _ := HS.out i (List.mem_of_getElem? HK.out)
                  have HNX : Hid (nxt i x = x - (mv i).1 + (mv i).2) := by exact rfl
                  have HNR : Hid (¬ ((mv i).1 ≤ x ∧ nxt i x ≤ 32) → ∀ D, ¬ Sol l D) := fun h => Sol.no_room HRE.out HK.out h
                  have HRM0 : Hid ((mv i).1 ≤ x → nxt i x ≤ 32 → ((mv i).1 ≤ x ∧ nxt i x ≤ 32) ∧ 0 ≤ nxt i x) := fun h1 h2 => ⟨⟨h1, h2⟩, nxt_low h1 HSD.out.2⟩
                  generalize hpe : (mv i).1 = p at *
                  generalize hqe : (mv i).2 = q at *
                  have HPQ : Hid _ := And.intro hpe hqe
                  clear hpe hqe
                  go_wp2_with fail
                  refine hmv.mono ?_
                  rintro e w3 ⟨rfl, hb3⟩
                  have hH3 := hH.below hb3
                  clear hmv c0 c1 c2 c3 cx hH hb3
                  obtain ⟨ga', oa', ea, c0, c1, c2, c3⟩ := (Row.below HR.out hH3.bel) k i HK.out
                  cases ea
                  have cx := hH3.cell HX.out
                  by_cases hr1 : p ≤ x
                  · by_cases hr2 : x - p + q ≤ 32
                    · obtain ⟨N, hN⟩ : ∃ N, N = x - p + q := ⟨_, rfl⟩
                      have HNE : Hid _ := hN
                      have HNI : Hid (nxt i x = N) := by show _ = _; rw [HNX.out, hN]
                      have h32 : nxt i x ≤ 32 := by rw [HNX.out]; exact hr2
                      have HRM : Hid ((mv i).1 ≤ x ∧ nxt i x ≤ 32) := by show _ ∧ _; rw [HPQ.out.1]; exact ⟨hr1, h32⟩
                      have hN0 : Hid (0 ≤ N) := by have := (HRM0.out hr1 h32).2; rw [HNI.out] at this; exact this
                      have HN32 : Hid (N ≤ 32) := by show N ≤ 32; rw [hN]; exact hr2
                      have hGB := hH3.lt
                      have hs3 := hH3.bel.size
                      obtain ⟨Bs, hBs⟩ : ∃ Bs, Bs = w3.heap.size := ⟨_, rfl⟩
                      rw [← hBs] at hGB hs3
                      have HBS : Hid _ := hBs
                      obtain ⟨z, hz⟩ : ∃ z : Nat, z = 0 := ⟨_, rfl⟩
                      have HZ0 : Hid _ := hz
                      have hnil : ∀ W : World, W.ownsRow Bs 3 1 (.slice none 0 0) z (irow []) := fun W => by rw [hz]; exact World.ownsRow_nil _ _ _ _
                      have hz5 : z ≤ 5 := by omega
                      clear hN h32 HNR HRM0 HNX hBs hz
                      by_cases h21 : i.op = 21
                      · have hb21 : (i.op == 21) = true := by simp [h21]
                        have hn21 : (i.op != 21) = false := by simp [h21]
                        have hfind := rfind_at l i.arg (some ⟨ga, oa, none⟩) ca w3 (Row.below HR.out hH3.bel) (by omega) (fun y hy => by have := HP.out.fine y hy; exact ⟨this.2.2.1, by have := this.2.2.2; omega⟩)
                        have HF0 : Hid _ := HSD.out.1 (Or.inl h21)
                        have hFr := findP_range l i.arg
                        have HFJ : Hid (∀ j : Nat, findP l i.arg = j → Reach l j N) := fun j hj => by rw [← HNI.out]; exact Reach.jump HRE.out HK.out (Or.inl h21) hj
                        have HTA0 : Hid (i.op ≠ 21 → ((k + 1 : Nat) : Int) ∈ [findP l i.arg]) := fun h => absurd h21 h
                        generalize hFe : findP l i.arg = F at *
                        have HFE : Hid _ := hFe
                        clear h21 hFe
                        go_wp2_with fail
                        refine hfind.mono ?_
                        rintro e w4 ⟨rfl, hb4⟩
                        have hs4 : Bs ≤ w4.heap.size := by rw [HBS.out]; exact hb4.size
                        have hH4 := hH3.below hb4
                        clear hfind hH3 hb4 c0 c1 c2 c3 cx
                        go_wp2_with (at_builtin; refine wpList_append_lies _ rfl _ _ _ rfl Bs 3 i0 _ 1 8 Try.underlying39 hi0 hz0 hz1 hz2 rfl (by omega) (.slice none 0 0) z _ rfl (hnil _) ⟨w4.heap.size, 0, none⟩ 1 1 [.int .i64 F] rfl rfl (World.news_of_block (cs := #[.int .i64 F]) (t := 3) (fr := (0, 0)) (heap_alloc_new w4 _)) (by simp [Value.oneCell']) (by omega) (by unfold maxLen; omega) (by omega) (by simp; omega) _ rfl ?_)
                        intro gg cap2 w5 hown5 hgrow hat hlt2
                        have hH5 : RH w1 w5 G cp D1 := (hH4.below ((Below.refl _ _).alloc (Nat.le_refl _) _)).near (below_grown hgrow (by simp; omega) (by simp [Value.ownBlock])) hGB
                        obtain ⟨T, hT⟩ : ∃ T, T = [F] := ⟨_, rfl⟩
                        have HT : Hid (w5.ownsRow Bs 3 1 (.slice (some ⟨gg, 0, none⟩) (z + 1) cap2) (z + 1) (irow T)) := by rw [hT]; exact hown5
                        have HTL : Hid (T.length = z + 1) := by show _ = _; rw [hT, HZ0.out]; rfl
                        have HTT : Hid (∀ y ∈ T, ∃ j : Nat, y = j ∧ j < l.length ∧ Reach l j N) := fun y hy => by
                          rw [hT] at hy
                          simp at hy
                          subst hy
                          exact ⟨y.toNat, by have := HF0.out; omega, by have := HF0.out; omega, HFJ.out _ (by have := HF0.out; omega)⟩
                        have HTA : Hid ((i.op ≠ 21 → ((k + 1 : Nat) : Int) ∈ T) ∧ ((i.op = 21 ∨ i.op = 22) → findP l i.arg ∈ T)) := by rw [hT, HFE.out]; exact ⟨HTA0.out, fun _ => by simp⟩
                        clear hT hown5 hgrow hat hlt2 hH4 hnil
                        go_wp2
                        go_loopg [11, 16] (z + 1) (fun gi b c wq => ∃ (D2 : List Int) (B2 : Bool) (m : Nat), Value.bool B2 = b ∧ c = .int .i64 m ∧ m ≤ z + 1 ∧ z + 1 - m ≤ gi ∧ Hid (RI l D2) ∧ RH w1 wq G cp D2 ∧ Hid (D2[k]? = some x) ∧ Hid (B2 = true → unm D2 < unm D) ∧ Hid (unm D2 ≤ unm D) ∧ Hid (B2 = false → Closed l D2 k ∧ ∀ (j : Nat) (y : Int), j < m → T[j]? = some y → D2[y.toNat]? = some N) ∧ Hid (wq.ownsRow Bs 3 1 (.slice (some ⟨gg, 0, none⟩) (z + 1) cap2) (z + 1) (irow T)))
                        case atStart => exact ⟨D1, B1, 0, rfl, rfl, Nat.zero_le _, Nat.le_refl _, HI, hH5, HX, HB1, HU, (fun h => ⟨HCL.out h, fun j y hj => absurd hj (Nat.not_lt_zero _)⟩), HT⟩
                        case round =>
                          clear hH5 HI HB1 HU HCL HX HT
                          obtain ⟨D2, B2, m, rfl, rfl, hm, hgi2, HI, hH, HX, HB1, HU, HCL, HT⟩ := hrel
                          have hbs := hH.bel.size
                          have hD2l : Hid _ := HI.out.len
                          have hslot : Hid _ := hH.own
                          by_cases hlt2 : m < z + 1
                          · obtain ⟨y, hy⟩ : ∃ y, T[m]? = some y := ⟨T[m]'(by rw [HTL.out]; exact hlt2), List.getElem?_eq_getElem _⟩
                            obtain ⟨j, hyj, hjl, hjr⟩ := HTT.out y (List.mem_of_getElem? hy)
                            subst hyj
                            have hct := own_cell HT.out hy
                            obtain ⟨z2, hz⟩ : ∃ z2, D2[j]? = some z2 := ⟨D2[j]'(by rw [hD2l.out]; exact hjl), List.getElem?_eq_getElem _⟩
                            have cz := hH.cell hz
                            have cx2 := hH.cell HX.out
                            have fz := hH.frozen j
                            have HZ : Hid _ := hz
                            have HY : Hid _ := hy
                            have HJR : Hid _ := hjr
                            clear hz hy hjr
                            by_cases hz0 : 0 ≤ z2
                            · have hzd : decide (0 ≤ z2) = true := decide_eq_true hz0
                              have hzl : decide (z2 < 0) = false := decide_eq_false (by omega)
                              cases hzn : (z2 == x - p + q) with
                              | false =>
                                have hzn' : (z2 != x - p + q) = true := by simp [bne, hzn]
                                have HNO : Hid _ := Sol.no_two HJR.out (HI.out.marks j z2 HZ.out hz0) (fun e => by rw [← e, HNE.out] at hzn; simp at hzn)
                                go_wp2_with fail
                                go_quiet (fail)
                                go_wp2
                                go_ret2
                                exact ⟨Or.inr ⟨nosol HV.out HNO.out, rfl⟩, hbw1.trans ((below_drewN hH.bel _).mono hbw1.size)⟩
                              | true =>
                                have hzn' : (z2 != x - p + q) = false := by simp [bne, hzn]
                                have hze : z2 = N := by rw [HNE.out]; simpa using hzn
                                have hH2 := hH.put j N
                                rw [set_same (by rw [← hze]; exact HZ.out)] at hH2
                                have HCL2 : Hid (B2 = false → Closed l D2 k ∧ ∀ (j : Nat) (y : Int), j < m + 1 → T[j]? = some y → D2[y.toNat]? = some N) := fun h => ⟨(HCL.out h).1, fun j' y' hj' hy' => by
                                  by_cases e : j' = m
                                  · subst e
                                    rw [HY.out] at hy'
                                    cases hy'
                                    rw [Int.toNat_natCast, HZ.out, hze]
                                  · exact (HCL.out h).2 j' y' (by omega) hy'⟩
                                rw [HNE.out] at hH2
                                clear HCL hze
                                cases B2 with
                                | true =>
                                  go_wp2_with fail
                                  go_quiet (fail)
                                  go_wp2
                                  go_roundg (z + 1 - (m + 1))
                                  case measure => omega
                                  case rel => exact ⟨D2, true, m + 1, rfl, by go_num, by omega, Nat.le_refl _, HI, RH.drewS hH2, HX, (fun _ => HB1.out (by simp)), HU, (fun h => by cases h), ownsRow_setCell_below (own_drewN HT.out _) hGB _⟩
                                | false =>
                                  go_wp2_with fail
                                  go_quiet (fail)
                                  go_wp2
                                  go_roundg (z + 1 - (m + 1))
                                  case measure => omega
                                  case rel => exact ⟨D2, false, m + 1, rfl, by go_num, by omega, Nat.le_refl _, HI, RH.drewS hH2, HX, (fun h => by cases h), HU, (fun _ => HCL2.out (by simp)), ownsRow_setCell_below (own_drewN HT.out _) hGB _⟩
                            · have hzd : decide (0 ≤ z2) = false := decide_eq_false hz0
                              have hzl : decide (z2 < 0) = true := decide_eq_true (by omega)
                              have hH2 := hH.put j N
                              have HI2 : Hid _ := HI.out.set HZ.out HJR.out hN0.out HN32.out (by omega)
                              have hz1 : z2 = -1 := by have := HI.out.low z2 (List.mem_of_getElem? HZ.out); omega
                              have hu2 : unm (D2.set j N) + 1 = unm D2 := unm_set (show D2[j]? = some (-1) by rw [← hz1]; exact HZ.out) (show N ≠ -1 by have := hN0.out; omega)
                              have HU2 : Hid (unm (D2.set j N) < unm D) := by have := HU.out; show _ < _; omega
                              have HX2 : Hid ((D2.set j N)[k]? = some x) := set_ne HX.out (fun e => by subst e; have := HZ.out; rw [HX.out] at this; cases this; omega)
                              obtain ⟨D3, hD3⟩ : ∃ D3, D3 = D2.set j N := ⟨_, rfl⟩
                              rw [← hD3] at hH2 HI2 HU2 HX2
                              rw [HNE.out] at hH2
                              clear hz1 hu2 hD3
                              cases B2 with
                              | true =>
                                go_wp2_with fail
                                go_quiet (fail)
                                go_wp2
                                go_roundg (z + 1 - (m + 1))
                                case measure => omega
                                case rel => exact ⟨D3, true, m + 1, rfl, by go_num, by omega, Nat.le_refl _, HI2, RH.drewS hH2, HX2, (fun _ => HU2.out), Nat.le_of_lt HU2.out, (fun h => by cases h), ownsRow_setCell_below (own_drewN HT.out _) hGB _⟩
                              | false =>
                                go_wp2_with fail
                                go_quiet (fail)
                                go_wp2
                                go_roundg (z + 1 - (m + 1))
                                case measure => omega
                                case rel => exact ⟨D3, true, m + 1, rfl, by go_num, by omega, Nat.le_refl _, HI2, RH.drewS hH2, HX2, (fun _ => HU2.out), Nat.le_of_lt HU2.out, (fun h => by cases h), ownsRow_setCell_below (own_drewN HT.out _) hGB _⟩
                          · obtain rfl : m = z + 1 := by omega
                            have HCL3 : Hid (B2 = false → Closed l D2 (k + 1)) := fun h => closed_step (HCL.out h).1 HX.out HK.out (by omega) HRM.out HNI.out (fun y hy => by obtain ⟨j, hj⟩ := List.mem_iff_getElem?.1 hy; exact (HCL.out h).2 j y (by have := (List.getElem?_eq_some_iff.1 hj).1; rw [HTL.out] at this; exact this) hj) HTA.out
                            go_wp2
                            go_roundg (l.length - (k + 1))
                            case measure => omega
                            case rel => exact ⟨D2, B2, k + 1, rfl, by go_num, by omega, Nat.le_refl _, HI, hH, HB1, HU, HCL3⟩
                      · have hb21 : (i.op == 21) = false := by simpa using h21
                        have hn21 : (i.op != 21) = true := by simpa using h21
                        have HNX1 : Hid (Reach l (k + 1) N) := by show Reach l (k + 1) N; rw [← HNI.out]; exact Reach.next HRE.out HK.out h21
                        by_cases hend : k + 1 = l.length
                        · have HNO : Hid _ := Sol.no_end (hend ▸ HNX1.out)
                          have hke : ((k : Int) + 1 == l.length) = true := by simp; omega
                          clear hend
                          go_wp2
                          go_ret2
                          exact ⟨Or.inr ⟨nosol HV.out HNO.out, rfl⟩, hbw1.trans (hH3.bel.mono hbw1.size)⟩
                        · have hke : ((k : Int) + 1 == l.length) = false := beq_false_of_ne (by omega)
                          have hk1 : k + 1 < l.length := by omega
                          have hbw3 : Bs ≤ w3.heap.size := by rw [HBS.out]; exact Nat.le_refl _
                          go_wp2_with (at_builtin; refine wpList_append_lies _ rfl _ _ _ rfl Bs 3 i0 _ 1 8 Try.underlying39 hi0 hz0 hz1 hz2 rfl (by omega) (.slice none 0 0) z _ rfl (hnil _) ⟨w3.heap.size, 0, none⟩ 1 1 [.int .i64 ((k : Int) + 1)] rfl rfl (World.news_of_block (cs := #[.int .i64 ((k : Int) + 1)]) (t := 3) (fr := (0, 0)) (heap_alloc_new w3 _)) (by simp [Value.oneCell']) (by omega) (by unfold maxLen; omega) (by omega) (by simp; omega) _ rfl ?_)
                          intro gg cap2 w5 hown5 hgrow hat hlt2
                          have hH5 : RH w1 w5 G cp D1 := (hH3.below ((Below.refl _ _).alloc (Nat.le_refl _) _)).near (below_grown hgrow (by simp; omega) (by simp [Value.ownBlock])) hGB
                          have hs5 : Bs ≤ w5.heap.size := by have := hgrow.size; simp at this; omega
                          have hT1 : w5.ownsRow Bs 3 1 (.slice (some ⟨gg, 0, none⟩) (z + 1) cap2) (z + 1) (irow [((k + 1 : Nat) : Int)]) := hown5
                          clear hown5 hgrow hat hlt2 hH3 hnil hend c0 c1 c2 c3 cx
                          obtain ⟨ga', oa', ea, c0, c1, c2, c3⟩ := (Row.below HR.out hH5.bel) k i HK.out
                          cases ea
                          by_cases h22 : i.op = 22
                          · have hb22 : (i.op == 22) = true := by simp [h22]
                            have hfind := rfind_at l i.arg (some ⟨ga, oa, none⟩) ca w5 (Row.below HR.out hH5.bel) (by omega) (fun y hy => by have := HP.out.fine y hy; exact ⟨this.2.2.1, by have := this.2.2.2; omega⟩)
                            have HF0 : Hid _ := HSD.out.1 (Or.inr h22)
                            have hFr := findP_range l i.arg
                            have HFJ : Hid (∀ j : Nat, findP l i.arg = j → Reach l j N) := fun j hj => by rw [← HNI.out]; exact Reach.jump HRE.out HK.out (Or.inr h22) hj
                            generalize hFe : findP l i.arg = F at *
                            have HFE : Hid _ := hFe
                            clear h21 h22 hFe
                            go_wp2_with fail
                            refine hfind.mono ?_
                            rintro e w6 ⟨rfl, hb6⟩
                            have hs6 : Bs ≤ w6.heap.size := Nat.le_trans hs5 hb6.size
                            have hH6 := hH5.below hb6
                            have hT6 := own_below hT1 hb6
                            clear hfind hH5 hb6 hT1 c0 c1 c2 c3
                            go_wp2_with (at_builtin; refine wpList_append_lies _ rfl _ _ _ rfl Bs 3 i0 _ 1 8 Try.underlying39 hi0 hz0 hz1 hz2 rfl (by omega) (.slice (some ⟨gg, 0, none⟩) (z + 1) cap2) (z + 1) _ rfl (hT6.alloc _) ⟨w6.heap.size, 0, none⟩ 1 1 [.int .i64 F] rfl rfl (World.news_of_block (cs := #[.int .i64 F]) (t := 3) (fr := (0, 0)) (heap_alloc_new w6 _)) (by simp [Value.oneCell']) (by omega) (by unfold maxLen; omega) (by omega) (by simp; omega) _ rfl ?_)
                            have hlow := ownsRow_low hT6
                            clear hT6
                            intro gg2 cap3 w7 hown5 hgrow hat hlt2
                            have hH7 : RH w1 w7 G cp D1 := (hH6.below ((Below.refl _ _).alloc (Nat.le_refl _) _)).near (below_grown hgrow (by simp; omega) hlow) hGB
                            obtain ⟨T, hT⟩ : ∃ T, T = [((k + 1 : Nat) : Int), F] := ⟨_, rfl⟩
                            have HT : Hid (w7.ownsRow Bs 3 1 (.slice (some ⟨gg2, 0, none⟩) (z + 1 + 1) cap3) (z + 1 + 1) (irow T)) := by rw [hT]; exact hown5
                            have HTL : Hid (T.length = z + 1 + 1) := by show _ = _; rw [hT, HZ0.out]; rfl
                            have HTT : Hid (∀ y ∈ T, ∃ j : Nat, y = j ∧ j < l.length ∧ Reach l j N) := fun y hy => by
                              rw [hT] at hy
                              rcases List.mem_cons.1 hy with rfl | hy
                              · exact ⟨k + 1, rfl, hk1, HNX1.out⟩
                              · simp at hy
                                subst hy
                                exact ⟨y.toNat, by have := HF0.out; omega, by have := HF0.out; omega, HFJ.out _ (by have := HF0.out; omega)⟩
                            have HTA : Hid ((i.op ≠ 21 → ((k + 1 : Nat) : Int) ∈ T) ∧ ((i.op = 21 ∨ i.op = 22) → findP l i.arg ∈ T)) := by rw [hT, HFE.out]; exact ⟨fun _ => by simp, fun _ => by simp⟩
                            clear hT hown5 hgrow hat hlt2 hH6 hlow
                            have hH5 := hH7
                            clear hH7
                            go_wp2
                            go_loopg [11, 16] (z + 1 + 1) (fun gi b c wq => ∃ (D2 : List Int) (B2 : Bool) (m : Nat), Value.bool B2 = b ∧ c = .int .i64 m ∧ m ≤ z + 1 + 1 ∧ z + 1 + 1 - m ≤ gi ∧ Hid (RI l D2) ∧ RH w1 wq G cp D2 ∧ Hid (D2[k]? = some x) ∧ Hid (B2 = true → unm D2 < unm D) ∧ Hid (unm D2 ≤ unm D) ∧ Hid (B2 = false → Closed l D2 k ∧ ∀ (j : Nat) (y : Int), j < m → T[j]? = some y → D2[y.toNat]? = some N) ∧ Hid (wq.ownsRow Bs 3 1 (.slice (some ⟨gg2, 0, none⟩) (z + 1 + 1) cap3) (z + 1 + 1) (irow T)))
                            case atStart => exact ⟨D1, B1, 0, rfl, rfl, Nat.zero_le _, Nat.le_refl _, HI, hH5, HX, HB1, HU, (fun h => ⟨HCL.out h, fun j y hj => absurd hj (Nat.not_lt_zero _)⟩), HT⟩
                            case round =>
                              clear hH5 HI HB1 HU HCL HX HT
                              obtain ⟨D2, B2, m, rfl, rfl, hm, hgi2, HI, hH, HX, HB1, HU, HCL, HT⟩ := hrel
                              have hbs := hH.bel.size
                              have hD2l : Hid _ := HI.out.len
                              have hslot : Hid _ := hH.own
                              by_cases hlt2 : m < z + 1 + 1
                              · obtain ⟨y, hy⟩ : ∃ y, T[m]? = some y := ⟨T[m]'(by rw [HTL.out]; exact hlt2), List.getElem?_eq_getElem _⟩
                                obtain ⟨j, hyj, hjl, hjr⟩ := HTT.out y (List.mem_of_getElem? hy)
                                subst hyj
                                have hct := own_cell HT.out hy
                                obtain ⟨z2, hz⟩ : ∃ z2, D2[j]? = some z2 := ⟨D2[j]'(by rw [hD2l.out]; exact hjl), List.getElem?_eq_getElem _⟩
                                have cz := hH.cell hz
                                have cx2 := hH.cell HX.out
                                have fz := hH.frozen j
                                have HZ : Hid _ := hz
                                have HY : Hid _ := hy
                                have HJR : Hid _ := hjr
                                clear hz hy hjr
                                by_cases hz0 : 0 ≤ z2
                                · have hzd : decide (0 ≤ z2) = true := decide_eq_true hz0
                                  have hzl : decide (z2 < 0) = false := decide_eq_false (by omega)
                                  cases hzn : (z2 == x - p + q) with
                                  | false =>
                                    have hzn' : (z2 != x - p + q) = true := by simp [bne, hzn]
                                    have HNO : Hid _ := Sol.no_two HJR.out (HI.out.marks j z2 HZ.out hz0) (fun e => by rw [← e, HNE.out] at hzn; simp at hzn)
                                    go_wp2_with fail
                                    go_quiet (fail)
                                    go_wp2
                                    go_ret2
                                    exact ⟨Or.inr ⟨nosol HV.out HNO.out, rfl⟩, hbw1.trans ((below_drewN hH.bel _).mono hbw1.size)⟩
                                  | true =>
                                    have hzn' : (z2 != x - p + q) = false := by simp [bne, hzn]
                                    have hze : z2 = N := by rw [HNE.out]; simpa using hzn
                                    have hH2 := hH.put j N
                                    rw [set_same (by rw [← hze]; exact HZ.out)] at hH2
                                    have HCL2 : Hid (B2 = false → Closed l D2 k ∧ ∀ (j : Nat) (y : Int), j < m + 1 → T[j]? = some y → D2[y.toNat]? = some N) := fun h => ⟨(HCL.out h).1, fun j' y' hj' hy' => by
                                      by_cases e : j' = m
                                      · subst e
                                        rw [HY.out] at hy'
                                        cases hy'
                                        rw [Int.toNat_natCast, HZ.out, hze]
                                      · exact (HCL.out h).2 j' y' (by omega) hy'⟩
                                    rw [HNE.out] at hH2
                                    clear HCL hze
                                    cases B2 with
                                    | true =>
                                      go_wp2_with fail
                                      go_quiet (fail)
                                      go_wp2
                                      go_roundg (z + 1 + 1 - (m + 1))
                                      case measure => omega
                                      case rel => exact ⟨D2, true, m + 1, rfl, by go_num, by omega, Nat.le_refl _, HI, RH.drewS hH2, HX, (fun _ => HB1.out (by simp)), HU, (fun h => by cases h), ownsRow_setCell_below (own_drewN HT.out _) hGB _⟩
                                    | false =>
                                      go_wp2_with fail
                                      go_quiet (fail)
                                      go_wp2
                                      go_roundg (z + 1 + 1 - (m + 1))
                                      case measure => omega
                                      case rel => exact ⟨D2, false, m + 1, rfl, by go_num, by omega, Nat.le_refl _, HI, RH.drewS hH2, HX, (fun h => by cases h), HU, (fun _ => HCL2.out (by simp)), ownsRow_setCell_below (own_drewN HT.out _) hGB _⟩
                                · have hzd : decide (0 ≤ z2) = false := decide_eq_false hz0
                                  have hzl : decide (z2 < 0) = true := decide_eq_true (by omega)
                                  have hH2 := hH.put j N
                                  have HI2 : Hid _ := HI.out.set HZ.out HJR.out hN0.out HN32.out (by omega)
                                  have hz1 : z2 = -1 := by have := HI.out.low z2 (List.mem_of_getElem? HZ.out); omega
                                  have hu2 : unm (D2.set j N) + 1 = unm D2 := unm_set (show D2[j]? = some (-1) by rw [← hz1]; exact HZ.out) (show N ≠ -1 by have := hN0.out; omega)
                                  have HU2 : Hid (unm (D2.set j N) < unm D) := by have := HU.out; show _ < _; omega
                                  have HX2 : Hid ((D2.set j N)[k]? = some x) := set_ne HX.out (fun e => by subst e; have := HZ.out; rw [HX.out] at this; cases this; omega)
                                  obtain ⟨D3, hD3⟩ : ∃ D3, D3 = D2.set j N := ⟨_, rfl⟩
                                  rw [← hD3] at hH2 HI2 HU2 HX2
                                  rw [HNE.out] at hH2
                                  clear hz1 hu2 hD3
                                  cases B2 with
                                  | true =>
                                    go_wp2_with fail
                                    go_quiet (fail)
                                    go_wp2
                                    go_roundg (z + 1 + 1 - (m + 1))
                                    case measure => omega
                                    case rel => exact ⟨D3, true, m + 1, rfl, by go_num, by omega, Nat.le_refl _, HI2, RH.drewS hH2, HX2, (fun _ => HU2.out), Nat.le_of_lt HU2.out, (fun h => by cases h), ownsRow_setCell_below (own_drewN HT.out _) hGB _⟩
                                  | false =>
                                    go_wp2_with fail
                                    go_quiet (fail)
                                    go_wp2
                                    go_roundg (z + 1 + 1 - (m + 1))
                                    case measure => omega
                                    case rel => exact ⟨D3, true, m + 1, rfl, by go_num, by omega, Nat.le_refl _, HI2, RH.drewS hH2, HX2, (fun _ => HU2.out), Nat.le_of_lt HU2.out, (fun h => by cases h), ownsRow_setCell_below (own_drewN HT.out _) hGB _⟩
                              · obtain rfl : m = z + 1 + 1 := by omega
                                have HCL3 : Hid (B2 = false → Closed l D2 (k + 1)) := fun h => closed_step (HCL.out h).1 HX.out HK.out (by omega) HRM.out HNI.out (fun y hy => by obtain ⟨j, hj⟩ := List.mem_iff_getElem?.1 hy; exact (HCL.out h).2 j y (by have := (List.getElem?_eq_some_iff.1 hj).1; rw [HTL.out] at this; exact this) hj) HTA.out
                                go_wp2
                                go_roundg (l.length - (k + 1))
                                case measure => omega
                                case rel => exact ⟨D2, B2, k + 1, rfl, by go_num, by omega, Nat.le_refl _, HI, hH, HB1, HU, HCL3⟩
                          · have hb22 : (i.op == 22) = false := by simpa using h22
                            obtain ⟨T, hT⟩ : ∃ T, T = [((k + 1 : Nat) : Int)] := ⟨_, rfl⟩
                            have HT : Hid (w5.ownsRow Bs 3 1 (.slice (some ⟨gg, 0, none⟩) (z + 1) cap2) (z + 1) (irow T)) := by rw [hT]; exact hT1
                            have HTL : Hid (T.length = z + 1) := by show _ = _; rw [hT, HZ0.out]; rfl
                            have HTT : Hid (∀ y ∈ T, ∃ j : Nat, y = j ∧ j < l.length ∧ Reach l j N) := fun y hy => by
                              rw [hT] at hy
                              simp at hy
                              subst hy
                              exact ⟨k + 1, rfl, hk1, HNX1.out⟩
                            have HTA : Hid ((i.op ≠ 21 → ((k + 1 : Nat) : Int) ∈ T) ∧ ((i.op = 21 ∨ i.op = 22) → findP l i.arg ∈ T)) := by rw [hT]; exact ⟨fun _ => by simp, fun h => absurd h (fun h => h.elim h21 h22)⟩
                            clear hT hT1 h21 h22
                            go_wp2
                            go_loopg [11, 16] (z + 1) (fun gi b c wq => ∃ (D2 : List Int) (B2 : Bool) (m : Nat), Value.bool B2 = b ∧ c = .int .i64 m ∧ m ≤ z + 1 ∧ z + 1 - m ≤ gi ∧ Hid (RI l D2) ∧ RH w1 wq G cp D2 ∧ Hid (D2[k]? = some x) ∧ Hid (B2 = true → unm D2 < unm D) ∧ Hid (unm D2 ≤ unm D) ∧ Hid (B2 = false → Closed l D2 k ∧ ∀ (j : Nat) (y : Int), j < m → T[j]? = some y → D2[y.toNat]? = some N) ∧ Hid (wq.ownsRow Bs 3 1 (.slice (some ⟨gg, 0, none⟩) (z + 1) cap2) (z + 1) (irow T)))
                            case atStart => exact ⟨D1, B1, 0, rfl, rfl, Nat.zero_le _, Nat.le_refl _, HI, hH5, HX, HB1, HU, (fun h => ⟨HCL.out h, fun j y hj => absurd hj (Nat.not_lt_zero _)⟩), HT⟩
                            case round =>
                              clear hH5 HI HB1 HU HCL HX HT
                              obtain ⟨D2, B2, m, rfl, rfl, hm, hgi2, HI, hH, HX, HB1, HU, HCL, HT⟩ := hrel
                              have hbs := hH.bel.size
                              have hD2l : Hid _ := HI.out.len
                              have hslot : Hid _ := hH.own
                              by_cases hlt2 : m < z + 1
                              · obtain ⟨y, hy⟩ : ∃ y, T[m]? = some y := ⟨T[m]'(by rw [HTL.out]; exact hlt2), List.getElem?_eq_getElem _⟩
                                obtain ⟨j, hyj, hjl, hjr⟩ := HTT.out y (List.mem_of_getElem? hy)
                                subst hyj
                                have hct := own_cell HT.out hy
                                obtain ⟨z2, hz⟩ : ∃ z2, D2[j]? = some z2 := ⟨D2[j]'(by rw [hD2l.out]; exact hjl), List.getElem?_eq_getElem _⟩
                                have cz := hH.cell hz
                                have cx2 := hH.cell HX.out
                                have fz := hH.frozen j
                                have HZ : Hid _ := hz
                                have HY : Hid _ := hy
                                have HJR : Hid _ := hjr
                                clear hz hy hjr
                                by_cases hz0 : 0 ≤ z2
                                · have hzd : decide (0 ≤ z2) = true := decide_eq_true hz0
                                  have hzl : decide (z2 < 0) = false := decide_eq_false (by omega)
                                  cases hzn : (z2 == x - p + q) with
                                  | false =>
                                    have hzn' : (z2 != x - p + q) = true := by simp [bne, hzn]
                                    have HNO : Hid _ := Sol.no_two HJR.out (HI.out.marks j z2 HZ.out hz0) (fun e => by rw [← e, HNE.out] at hzn; simp at hzn)
                                    go_wp2_with fail
                                    go_quiet (fail)
                                    go_wp2
                                    go_ret2
                                    exact ⟨Or.inr ⟨nosol HV.out HNO.out, rfl⟩, hbw1.trans ((below_drewN hH.bel _).mono hbw1.size)⟩
                                  | true =>
                                    have hzn' : (z2 != x - p + q) = false := by simp [bne, hzn]
                                    have hze : z2 = N := by rw [HNE.out]; simpa using hzn
                                    have hH2 := hH.put j N
                                    rw [set_same (by rw [← hze]; exact HZ.out)] at hH2
                                    have HCL2 : Hid (B2 = false → Closed l D2 k ∧ ∀ (j : Nat) (y : Int), j < m + 1 → T[j]? = some y → D2[y.toNat]? = some N) := fun h => ⟨(HCL.out h).1, fun j' y' hj' hy' => by
                                      by_cases e : j' = m
                                      · subst e
                                        rw [HY.out] at hy'
                                        cases hy'
                                        rw [Int.toNat_natCast, HZ.out, hze]
                                      · exact (HCL.out h).2 j' y' (by omega) hy'⟩
                                    rw [HNE.out] at hH2
                                    clear HCL hze
                                    cases B2 with
                                    | true =>
                                      go_wp2_with fail
                                      go_quiet (fail)
                                      go_wp2
                                      go_roundg (z + 1 - (m + 1))
                                      case measure => omega
                                      case rel => exact ⟨D2, true, m + 1, rfl, by go_num, by omega, Nat.le_refl _, HI, RH.drewS hH2, HX, (fun _ => HB1.out (by simp)), HU, (fun h => by cases h), ownsRow_setCell_below (own_drewN HT.out _) hGB _⟩
                                    | false =>
                                      go_wp2_with fail
                                      go_quiet (fail)
                                      go_wp2
                                      go_roundg (z + 1 - (m + 1))
                                      case measure => omega
                                      case rel => exact ⟨D2, false, m + 1, rfl, by go_num, by omega, Nat.le_refl _, HI, RH.drewS hH2, HX, (fun h => by cases h), HU, (fun _ => HCL2.out (by simp)), ownsRow_setCell_below (own_drewN HT.out _) hGB _⟩
                                · have hzd : decide (0 ≤ z2) = false := decide_eq_false hz0
                                  have hzl : decide (z2 < 0) = true := decide_eq_true (by omega)
                                  have hH2 := hH.put j N
                                  have HI2 : Hid _ := HI.out.set HZ.out HJR.out hN0.out HN32.out (by omega)
                                  have hz1 : z2 = -1 := by have := HI.out.low z2 (List.mem_of_getElem? HZ.out); omega
                                  have hu2 : unm (D2.set j N) + 1 = unm D2 := unm_set (show D2[j]? = some (-1) by rw [← hz1]; exact HZ.out) (show N ≠ -1 by have := hN0.out; omega)
                                  have HU2 : Hid (unm (D2.set j N) < unm D) := by have := HU.out; show _ < _; omega
                                  have HX2 : Hid ((D2.set j N)[k]? = some x) := set_ne HX.out (fun e => by subst e; have := HZ.out; rw [HX.out] at this; cases this; omega)
                                  obtain ⟨D3, hD3⟩ : ∃ D3, D3 = D2.set j N := ⟨_, rfl⟩
                                  rw [← hD3] at hH2 HI2 HU2 HX2
                                  rw [HNE.out] at hH2
                                  clear hz1 hu2 hD3
                                  cases B2 with
                                  | true =>
                                    go_wp2_with fail
                                    go_quiet (fail)
                                    go_wp2
                                    go_roundg (z + 1 - (m + 1))
                                    case measure => omega
                                    case rel => exact ⟨D3, true, m + 1, rfl, by go_num, by omega, Nat.le_refl _, HI2, RH.drewS hH2, HX2, (fun _ => HU2.out), Nat.le_of_lt HU2.out, (fun h => by cases h), ownsRow_setCell_below (own_drewN HT.out _) hGB _⟩
                                  | false =>
                                    go_wp2_with fail
                                    go_quiet (fail)
                                    go_wp2
                                    go_roundg (z + 1 - (m + 1))
                                    case measure => omega
                                    case rel => exact ⟨D3, true, m + 1, rfl, by go_num, by omega, Nat.le_refl _, HI2, RH.drewS hH2, HX2, (fun _ => HU2.out), Nat.le_of_lt HU2.out, (fun h => by cases h), ownsRow_setCell_below (own_drewN HT.out _) hGB _⟩
                              · obtain rfl : m = z + 1 := by omega
                                have HCL3 : Hid (B2 = false → Closed l D2 (k + 1)) := fun h => closed_step (HCL.out h).1 HX.out HK.out (by omega) HRM.out HNI.out (fun y hy => by obtain ⟨j, hj⟩ := List.mem_iff_getElem?.1 hy; exact (HCL.out h).2 j y (by have := (List.getElem?_eq_some_iff.1 hj).1; rw [HTL.out] at this; exact this) hj) HTA.out
                                go_wp2
                                go_roundg (l.length - (k + 1))
                                case measure => omega
                                case rel => exact ⟨D2, B2, k + 1, rfl, by go_num, by omega, Nat.le_refl _, HI, hH, HB1, HU, HCL3⟩
                    · have HNO : Hid _ := HNR.out (by rw [HNX.out]; exact fun h => hr2 h.2)
                      go_wp2
                      go_ret2
                      exact ⟨Or.inr ⟨nosol HV.out HNO.out, rfl⟩, hbw1.trans (hH3.bel.mono hbw1.size)⟩
                  · have HNO : Hid _ := HNR.out (fun h => hr1 h.1)
                    go_wp2
                    go_ret2
                    exact ⟨Or.inr ⟨nosol HV.out HNO.out, rfl⟩, hbw1.trans (hH3.bel.mono hbw1.size)⟩
              · obtain rfl : k = l.length := by omega
                go_wp2
                go_roundg (unm D)
                case measure => omega
                case rel => exact ⟨D1, B1, rfl, HI, hH, (fun h => by have := HB1.out h; omega), HCL⟩
end Go.Proofs.Ytedkijionpkmmaa
