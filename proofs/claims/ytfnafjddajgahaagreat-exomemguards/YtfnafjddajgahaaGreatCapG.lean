/- takeMadeOf: what was made of one goes, and where it was. -/
import Derived.Test.YtfnafjddajgahaaGreatCapF
namespace Go.Proofs.YtfnafjddajgahaaGreat
open Go.RowKit
namespace Ca
set_option linter.unusedVariables false

/-- The first k slots, what was made of that one gone. -/
def clTo (T : Tab) (pe ps : Int) (k : Nat) : Tab := fun j => if j < k ∧ ofB (T j) pe ps = true then Hd.no else T j
theorem clTo_zero (T : Tab) (pe ps : Int) : clTo T pe ps 0 = T := by
  funext j
  simp [clTo]
theorem clTo_at (T : Tab) (pe ps : Int) (k : Nat) : clTo T pe ps k k = T k := by simp [clTo]
theorem clTo_hit {T : Tab} {pe ps : Int} {k : Nat} (h : ofB (T k) pe ps = true) : (clTo T pe ps k).set k Hd.no = clTo T pe ps (k + 1) := by
  funext j
  by_cases hj : j = k
  · subst hj
    simp [Tab.set, clTo, h]
  · have : j < k + 1 ↔ j < k := by omega
    simp [Tab.set, hj, clTo, this]
theorem clTo_miss {T : Tab} {pe ps : Int} {k : Nat} (h : ofB (T k) pe ps = false) : clTo T pe ps k = clTo T pe ps (k + 1) := by
  funext j
  by_cases hj : j = k
  · subst hj
    simp [clTo, h]
  · have : j < k + 1 ↔ j < k := by omega
    simp [clTo, this]
/-- A slot's place. -/
def plOf (j : Nat) : Int × Int := (((j / 64 : Nat) : Int), ((j % 64 + 1 : Nat) : Int))
/-- The places of what was made of that one, among the first k slots. -/
def madeTo (T : Tab) (pe ps : Int) (k : Nat) : List (Int × Int) := ((List.range k).filter (fun j => ofB (T j) pe ps)).map plOf
theorem madeTo_len (T : Tab) (pe ps : Int) (k : Nat) : (madeTo T pe ps k).length ≤ k := by
  unfold madeTo
  rw [List.length_map]
  exact Nat.le_trans (List.length_filter_le _ _) (by simp)
theorem madeTo_hit {T : Tab} {pe ps : Int} {m s : Nat} (hs : s < 64) (h : ofB (T (m * 64 + s)) pe ps = true) : madeTo T pe ps (m * 64 + (s + 1)) = madeTo T pe ps (m * 64 + s) ++ [((m : Int), ((s + 1 : Nat) : Int))] := by
  have h1 : (m * 64 + s) / 64 = m := by omega
  have h2 : (m * 64 + s) % 64 = s := by omega
  have h3 : m * 64 + (s + 1) = m * 64 + s + 1 := by omega
  rw [h3]
  simp [madeTo, List.range_succ, h, plOf, h1, h2]
theorem madeTo_miss {T : Tab} {pe ps : Int} {k : Nat} (h : ofB (T k) pe ps = false) : madeTo T pe ps (k + 1) = madeTo T pe ps k := by
  simp [madeTo, List.range_succ, h]

/-- The cells of places. -/
def pcells (L : List (Int × Int)) : List Value := L.flatMap fun x => [.int .i64 x.1, .int .i64 x.2]
theorem pcells_len : ∀ (L : List (Int × Int)), (pcells L).length = L.length * 2
  | [] => rfl
  | x :: L => by
    have e : pcells (x :: L) = [.int .i64 x.1, .int .i64 x.2] ++ pcells L := rfl
    rw [e, List.length_append, pcells_len L, List.length_cons]
    simp
    omega
theorem pcells_snoc (L : List (Int × Int)) (x : Int × Int) : pcells (L ++ [x]) = pcells L ++ [.int .i64 x.1, .int .i64 x.2] := by simp [pcells]
theorem pcells_app (L M : List (Int × Int)) : pcells (L ++ M) = pcells L ++ pcells M := by simp [pcells]
theorem placeInfo : (Tryz.prog.info? 115).map (fun i => (i.zero, i.size, i.bytes)) = some (some (.agg #[.int .i64 0, .int .i64 0]), 2, 16) := by kernel_rfl
theorem ownsRow_mono {w : World} {base base' : Nat} {e : TypeId} {size : Nat} {v : Value} {n : Nat} {xs : List Value} (h : w.ownsRow base e size v n xs) (hb : base' ≤ base) : w.ownsRow base' e size v n xs := by
  obtain ⟨h1, h2⟩ := h
  refine ⟨h1, ?_⟩
  rcases h2 with h2 | ⟨g, cap, cur, hv, hg, hh, r⟩
  · exact Or.inl h2
  · exact Or.inr ⟨g, cap, cur, hv, by omega, hh, r⟩
theorem _root_.Go.Proofs.YtfnafjddajgahaaGreat.Upd.grown {b : Nat} {W w w' : World} {v : Value} (h : Upd b W w) (hg : w.grownBy w' v.ownBlock) (hv : ∀ g, v.ownBlock = some g → W.heap.size ≤ g) : Upd b W w' :=
  ⟨hg.os.trans h.os, hg.tape.trans h.tape, hg.output.trans h.output, Nat.le_trans h.size hg.size, fun k hk hb => (hg.block k (Nat.lt_of_lt_of_le hk h.size) (fun e => by have := hv k e.symm; omega)).trans (h.block k hk hb)⟩
theorem own_upd {b : Nat} {w w' : World} {base : Nat} {e : TypeId} {size : Nat} {v : Value} {n : Nat} {xs : List Value} (h : w.ownsRow base e size v n xs) (hb : b < base) (hu : Upd b w w') : w'.ownsRow base e size v n xs :=
  ownsRow_at h (fun g hg => hu.block g (h.lt g hg).2 (by have := ownsRow_low h g hg; omega))
theorem own_slice2 {w : World} {base : Nat} {e : TypeId} {v : Value} {n : Nat} {xs : List Value} (h : w.ownsRow base e 2 v n xs) : ∃ a cap, v = .slice a n cap := by
  rcases h.2 with ⟨rfl, e2⟩ | ⟨g, cap, cur, rfl, _⟩
  · exact ⟨none, 0, by rw [e2]⟩
  · exact ⟨_, _, rfl⟩

set_option maxRecDepth 100000 in
set_option maxHeartbeats 4000000 in
theorem takeMadeOf_at (b : Nat) (T : Tab) (pe ps : Int) (w : World) (h : CapsAt w b T) :
    Calls Tryz.prog 105 #[.pointer (some ⟨b, 0, none⟩), .agg #[.int .i64 pe, .int .i64 ps]] w fun e w' => ∃ v, e = .returned v ∧ w'.ownsRow w.heap.size 115 2 v (madeTo T pe ps 768).length (pcells (madeTo T pe ps 768)) ∧ (madeTo T pe ps 768 = [] → v = .slice none 0 0) ∧ CapsAt w' b (clTo T pe ps 768) ∧ Upd b w w' := by
  obtain ⟨i0, hi0, hzz⟩ := Option.map_eq_some_iff.1 placeInfo
  simp only [Prod.mk.injEq] at hzz
  obtain ⟨hz0, hz1, hz2⟩ := hzz
  obtain ⟨W, hW⟩ : ∃ W, W = w.alloc (.cells #[.int .i64 pe, .int .i64 ps] 115) := ⟨_, rfl⟩
  have HB : Hid (Below w.heap.size w W) := by rw [hW]; exact below_alloc _ _
  have HC : Hid (CapsAt W b T) := h.below HB.out
  have hWs : W.heap.size = w.heap.size + 1 := by rw [hW]; simp
  have HP : Hid (W.heap[w.heap.size]? = some (.cells #[.int .i64 pe, .int .i64 ps] 115)) := by rw [hW]; exact heap_alloc_new _ _
  have hlt := h.lt
  have HWS : Hid _ := hWs
  clear h hWs
  go_enter Tryz.func105, Tryz.ntmps105
  go_wp2
  rw [← hW]
  clear hW
  go_loopw [5, 8] (fun u s wr => ∃ (m : Nat) (v : Value), m ≤ 12 ∧ s = .int .i64 m ∧ v = u ∧ wr.ownsRow W.heap.size 115 2 v (madeTo T pe ps (m * 64)).length (pcells (madeTo T pe ps (m * 64))) ∧ Hid (madeTo T pe ps (m * 64) = [] → v = .slice none 0 0) ∧ CapsAt wr b (clTo T pe ps (m * 64)) ∧ Upd b W wr) (fun _ s _ => 12 - (intOf s).toNat)
  case atStart => exact ⟨0, _, by omega, rfl, rfl, by rw [Nat.zero_mul]; exact World.ownsRow_nil _ _ _ _, (show Hid _ from fun _ => rfl), by rw [Nat.zero_mul, clTo_zero]; exact HC.out, Upd.refl _ _⟩
  case round =>
    obtain ⟨m, v, hm', rfl, rfl, hown, HNL, hC, hU⟩ := hrel
    by_cases hm : m < 12
    · have H0 : Hid _ := hC
      have H1 : Hid _ := hU
      have H2 : Hid _ := hown
      clear hC hU hown
      have gm : decide ((m : Int) < 12) = true := decide_eq_true (by omega)
      have im : (m : Int) < 12 := by omega
      go_wp2
      go_loopw [5, 11] (fun u s wr => ∃ (k : Nat) (v : Value), k ≤ 64 ∧ s = .int .i64 k ∧ v = u ∧ wr.ownsRow W.heap.size 115 2 v (madeTo T pe ps (m * 64 + k)).length (pcells (madeTo T pe ps (m * 64 + k))) ∧ Hid (madeTo T pe ps (m * 64 + k) = [] → v = .slice none 0 0) ∧ CapsAt wr b (clTo T pe ps (m * 64 + k)) ∧ Upd b W wr) (fun _ s _ => 64 - (intOf s).toNat)
      case atStart => exact ⟨0, _, by omega, rfl, rfl, H2.out, HNL, H0.out, H1.out⟩
      case round =>
        clear H0 H1 H2 HNL
        obtain ⟨s, v, hs', rfl, rfl, hown, HNL, hC, hU⟩ := hrel
        by_cases hs : s < 64
        · have hp := (hU.block _ (lt_of_heap HP.out) (by omega)).trans HP.out
          have p0 : wr.cell? ⟨w.heap.size, 0, none⟩ = some (.int .i64 pe) := by rw [cell_of_heap hp]; rfl
          have p1 : wr.cell? ⟨w.heap.size, 1, none⟩ = some (.int .i64 ps) := by rw [cell_of_heap hp]; rfl
          obtain ⟨⟨c0, c1, c2, c3⟩, c4, c5⟩ := hC.cells hm hs (clTo_at T pe ps (m * 64 + s))
          have heq := place_eql (T (m * 64 + s)).e (T (m * 64 + s)).s pe ps
          have HC2 : Hid _ := hC
          clear hC hp
          have hle := madeTo_len T pe ps (m * 64 + s)
          cases ho : ofB (T (m * 64 + s)) pe ps with
          | false =>
            have ho' := ho
            unfold ofB at ho'
            rw [ho'] at heq
            have HM : Hid _ := clTo_miss ho
            have HL : Hid _ := madeTo_miss ho
            clear ho ho' c0 c1 c2 c3
            generalize (T (m * 64 + s)).e = te at *
            generalize (T (m * 64 + s)).s = ts at *
            go_wp2
            go_quiet (fail)
            go_wp2
            go_roundw
            case rel =>
              refine ⟨s + 1, _, by omega, by go_num, rfl, ?_, (show Hid _ from fun e => HNL.out (HL.out.symm.trans e)), ?_, hU.trans (Upd.drewN _ _)⟩
              · have h2 := ownsRow_below hown (below_drewN (Below.refl _ wr) nq)
                rw [← HL.out] at h2
                exact h2
              · have h2 := HC2.out.drewN nq
                rw [HM.out] at h2
                exact h2
            case measure => simp [intOf]; omega
          | true =>
            have ho' := ho
            unfold ofB at ho'
            rw [ho'] at heq
            have HM : Hid _ := clTo_hit ho
            have HL : Hid _ := madeTo_hit hs ho
            clear ho ho'
            generalize (T (m * 64 + s)).e = te at *
            generalize (T (m * 64 + s)).s = ts at *
            generalize (T (m * 64 + s)).x = tx at *
            obtain ⟨x0, x1, x2, x3⟩ := tx
            dsimp only at c0 c1 c2 c3
            go_wp2
            go_quiet (fail)
            obtain ⟨V, hV⟩ : ∃ V, V = wr.drewN nq := ⟨_, rfl⟩
            rw [← hV]
            have hbV : Below wr.heap.size wr V := by rw [hV]; exact below_drewN (Below.refl _ wr) nq
            have HC3 : Hid (CapsAt V b (clTo T pe ps (m * 64 + s))) := HC2.out.below hbV
            have HV : Hid (Upd b W V) := hU.trans (Upd.of_below hbV)
            have hown3 := ownsRow_below hown hbV
            rw [← hbV.cell (cell_lt c0)] at c0
            rw [← hbV.cell (cell_lt c1)] at c1
            rw [← hbV.cell (cell_lt c2)] at c2
            rw [← hbV.cell (cell_lt c3)] at c3
            rw [← hbV.cell (cell_lt c4)] at c4
            rw [← hbV.cell (cell_lt c5)] at c5
            have f0 := HC3.out.free (m * 384 + s * 6)
            have f1 := HC3.out.free (m * 384 + s * 6 + 1)
            have f2 := HC3.out.free (m * 384 + s * 6 + 2)
            have f3 := HC3.out.free (m * 384 + s * 6 + 3)
            have f4 := HC3.out.free (m * 384 + s * 6 + 4)
            have f5 := HC3.out.free (m * 384 + s * 6 + 5)
            have HO : Hid _ := hown3
            clear hV hbV p0 p1 hU HC2 heq hown hown3
            have hsz := HWS.out
            have hV1 := HV.out.size
            have HX := HC3.out.put6 (j := m * 64 + s) (o := m * 384 + s * 6) (by omega) (by omega) Hd.no
            dsimp only at HX
            rw [HM.out] at HX
            have hsix := Upd.six b (m * 384 + s * 6) V (.int .i64 0) (.int .i64 0) (.int .i64 0) (.int .i64 0) (.int .i64 0) (.int .i64 0)
            have HO6 := own_upd HO.out (by omega) hsix
            have HU6 := HV.out.trans hsix
            generalize madeTo T pe ps (m * 64 + s) = L at *
            obtain ⟨V6, hV6⟩ : ∃ V6, V6 = (((((V.setCell ⟨b, m * 384 + s * 6, none⟩ (.int .i64 0)).setCell ⟨b, m * 384 + s * 6 + 1, none⟩ (.int .i64 0)).setCell ⟨b, m * 384 + s * 6 + 2, none⟩ (.int .i64 0)).setCell ⟨b, m * 384 + s * 6 + 3, none⟩ (.int .i64 0)).setCell ⟨b, m * 384 + s * 6 + 4, none⟩ (.int .i64 0)).setCell ⟨b, m * 384 + s * 6 + 5, none⟩ (.int .i64 0) := ⟨_, rfl⟩
            rw [← hV6] at HX HO6 HU6
            have hVs : V6.heap.size = V.heap.size := by rw [hV6]; simp
            have HXX : Hid _ := HX
            have HOA : Hid (∀ o, (V6.alloc o).ownsRow W.heap.size 115 2 v L.length (pcells L)) := fun o => HO6.alloc o
            have HLW : Hid (∀ g, v.ownBlock = some g → W.heap.size ≤ g) := ownsRow_low HO6
            have HUU : Hid _ := HU6
            have HVV : Hid _ := hV6
            have HNW : Hid (∀ j u, [Value.int .i64 (m : Int), .int .i64 ((s : Int) + 1)][j]? = some u → (V6.alloc (.cells #[.int .i64 (m : Int), .int .i64 ((s : Int) + 1)] 115)).cell? ((⟨V.heap.size, 0, none⟩ : Addr).add j) = some u) := by
              rw [← hVs]
              exact World.news_of_block (cs := #[.int .i64 (m : Int), .int .i64 ((s : Int) + 1)]) (t := 115) (fr := (0, 0)) (heap_alloc_new V6 _)
            have HBS : Hid (∀ o, W.heap.size ≤ (V6.alloc o).heap.size) := fun o => by simp; omega
            clear HX HO6 HU6 hV6 hsix HV HC3 HO HM hVs HNL
            go_wp2_with (at_builtin; rw [← HVV.out]; refine wpList_append_lies _ rfl _ _ _ rfl W.heap.size 115 i0 _ 2 16 Tryz.underlying155 hi0 hz0 hz1 hz2 rfl (by omega) v L.length (pcells L) rfl (HOA.out _) ⟨V.heap.size, 0, none⟩ 1 1 [.int .i64 m, .int .i64 ((s : Int) + 1)] rfl rfl HNW.out (by simp [Value.oneCell']) (by omega) (by unfold maxLen; omega) (by omega) (HBS.out _) _ rfl ?_; intro gg cap w2 hown2 hgrow hat hlt2)
            go_roundw
            case rel =>
              have ha := below_alloc V6 (.cells #[.int .i64 (m : Int), .int .i64 ((s : Int) + 1)] 115)
              refine ⟨s + 1, _, by omega, by go_num, rfl, ?_, (show Hid _ from fun e => by rw [HL.out] at e; simp at e), ?_, (HUU.out.trans (Upd.of_below ha)).grown hgrow HLW.out⟩
              · have e : pcells (madeTo T pe ps (m * 64 + (s + 1))) = pcells L ++ [Value.int .i64 (m : Int), .int .i64 ((s : Int) + 1)] := by
                  rw [HL.out, pcells_snoc]
                  rfl
                have e2 : (madeTo T pe ps (m * 64 + (s + 1))).length = L.length + 1 := by rw [HL.out]; simp
                rw [e, e2]
                exact hown2
              · have h2 := HXX.out.below ha
                exact h2.keep (hgrow.block b h2.lt (fun e => by have := HLW.out b e.symm; omega))
            case measure => simp [intOf]; omega
        · obtain rfl : s = 64 := by omega
          go_wp2
          go_roundw
          case rel => exact ⟨m + 1, _, by omega, by go_num, rfl, by rw [show (m + 1) * 64 = m * 64 + 64 from by omega]; exact hown, by rw [show (m + 1) * 64 = m * 64 + 64 from by omega]; exact HNL, by rw [show (m + 1) * 64 = m * 64 + 64 from by omega]; exact hC, hU⟩
          case measure => simp [intOf]; omega
    · obtain rfl : m = 12 := by omega
      have hsz := HWS.out
      go_wp2
      go_ret
      exact ⟨_, rfl, ownsRow_mono hown (by omega), HNL.out, hC, (Upd.of_below HB.out).trans hU⟩
end Ca
end Go.Proofs.YtfnafjddajgahaaGreat
