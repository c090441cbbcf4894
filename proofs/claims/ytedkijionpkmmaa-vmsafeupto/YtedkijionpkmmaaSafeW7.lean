/- januslaw07.VmSafe at a program that may be run. -/
import Derived.Test.YtedkijionpkmmaaSafe7
namespace Go.Proofs.Ytedkijionpkmmaa
open Go.RowKit
set_option linter.unusedVariables false

/-- What the search for the instruction has found behind so many. -/
def atV (k q : Nat) : Int := if k < q then (k : Int) else -1
theorem atV_zero (k : Nat) : atV k 0 = -1 := rfl
theorem atV_hit (k : Nat) : atV k (k + 1) = k := by unfold atV; rw [if_pos (by omega)]
theorem atV_miss {k q : Nat} (h : q ≠ k) : atV k (q + 1) = atV k q := by
  unfold atV
  split <;> split <;> omega
theorem atV_end {k n : Nat} (h : k < n) : atV k n = k := by unfold atV; rw [if_pos h]
theorem run_one {s : List UInt8} {pc : Int} {st ms : List Int} : ∃ ad vl sy n, vrun s 1 pc st ms = ⟨(von s pc st ms).1, (von s pc st ms).2.1, (von s pc st ms).2.2.1, ⟨(von s pc st ms).2.2.2.kind, ad, vl, sy⟩, n⟩ ∧ ((von s pc st ms).2.2.2.kind ≠ 0 → n = 0) := by
  by_cases h : (von s pc st ms).2.2.2.kind = 0
  · refine ⟨0, 0, 0, 1, ?_, fun h2 => absurd h h2⟩
    rw [vrun_go h, h]
    rfl
  · refine ⟨(von s pc st ms).2.2.2.addr, (von s pc st ms).2.2.2.val, (von s pc st ms).2.2.2.sys, 0, ?_, fun _ => rfl⟩
    rw [vrun_stop h]
theorem At.other {s : List UInt8} {l : List Ins} {D : List Int} {k q : Nat} {i y : Ins} {pc : Int} {st : List Int} (h : At s l D k i pc st) (hy : l[q]? = some y) (hq : q ≠ k) : (y.pos == pc) = false := by
  apply beq_false_of_ne
  intro e
  have hp := h.valid.prog
  have e2 := h.pos
  rcases Nat.lt_or_ge q k with h1 | h1
  · have := hp.up q k y i h1 hy h.ins
    omega
  · have := hp.up k q i y (by omega) h.ins hy
    omega

set_option maxHeartbeats 8000000 in
theorem safe_yes (s : List UInt8) (l : List Ins) (D : List Int) (hv : Valid s l D) (fuel : Int) (w : World) :
    Calls Try.prog 4 #[tx s, .int .i64 fuel] w fun e w' => e = .returned (.bool true) ∧ Below w.heap.size w w' := by
  have hlens := hv.lens
  have hsl : s.length ≤ 192 := hv.size.2
  obtain ⟨hl1, hl2, hl3⟩ := hlens
  have hdep := rdepths_all s (by omega) w
  have HV : Hid (Valid s l D) := hv
  have hmk := make128
  obtain ⟨k0, i0, hat0⟩ := at_start hv
  have HA0 : Hid (At s l D k0 i0 0 []) := hat0
  have HD3 : Hid _ := hl3
  clear hat0 hl3 hv
  set_option maxRecDepth 20000 in
  go_enter Try.func4, Try.ntmps4
  go_wp2_with fail
  refine hdep.mono ?_
  clear hdep
  rintro e w1 ⟨hr, hb1⟩
  obtain ⟨b0, cb, rfl, hir⟩ : ∃ b0 cb, e = .returned (.tuple #[.slice b0 l.length cb, .int .i64 0]) ∧ IRow w1 b0 D := by
    rcases hr with ⟨l', D', b0, cb, hv', he, hir⟩ | ⟨hbad, _⟩
    · obtain ⟨rfl, rfl⟩ := HV.out.unique hv'
      exact ⟨b0, cb, he, hir⟩
    · exact absurd HV.out (hbad _ _)
  have HIR : Hid (IRow w1 b0 D) := hir
  clear hir hr
  go_wp2_with fail
  refine (rdecode_yes HV.out w1).mono ?_
  rintro e w2 ⟨⟨a0, ca, rfl, hrow⟩, hb2⟩
  have HROW : Hid (Row w2 a0 l) := hrow
  have HIR2 : Hid (IRow w2 b0 D) := IRow.below HIR.out hb2
  have HB2 : Hid (Below w.heap.size w w2) := hb1.trans (hb2.mono hb1.size)
  clear hrow hb2 hb1 HIR
  go_wp2_with fail
  obtain ⟨W3, hW3⟩ : ∃ V, V = (w2.alloc (.cells #[.int .i64 0, .slice none 0 0] 24)).alloc (.cells (uvs zs128).toArray 25) := ⟨_, rfl⟩
  rw [← hW3]
  have HS0 : Hid (SK w2 W3 0 (.slice none 0 0) [] (.slice (some ⟨w2.heap.size + 1, 0, none⟩) 128 128) zs128) := by
    obtain ⟨q0, q1, q2, q3⟩ := laidAB hW3
    have hz := urd_zero (w2.alloc (.cells #[.int .i64 0, .slice none 0 0] 24))
    rw [← hW3] at hz
    have e : (w2.alloc (.cells #[.int .i64 0, .slice none 0 0] 24)).heap.size = w2.heap.size + 1 := by simp
    rw [e] at hz
    exact ⟨q1, ⟨urd_nil _, fun h => absurd rfl h⟩, ⟨hz, fun _ g hg => by simp [Value.ownBlock] at hg; omega⟩, q0⟩
  have HF0 : Hid (Fine7 99990 0 [] zs128) := ⟨by omega, by simp, fun x h => by simp at h, zs128_wds⟩
  clear hW3 hmk
  go_loopw [10, 11] (fun m n wr => ∃ (j : Nat) (pc : Int) (sv : Value) (st ms : List Int) (mv : Value) (k : Nat) (i : Ins), mv = m ∧ n = .int .i64 j ∧ j ≤ 200 ∧ Hid (SK w2 wr pc sv st mv ms) ∧ Hid (Fine7 99990 pc st ms) ∧ Hid (ms.length = 128) ∧ Hid (At s l D k i pc st)) (fun _ n _ => 200 - (intOf n).toNat)
  case atStart => exact ⟨0, 0, _, [], zs128, _, k0, i0, rfl, rfl, by omega, HS0, HF0, zs128_len, HA0⟩
  case round =>
    clear HS0 HF0 HA0
    obtain ⟨j, pc, sv, st, ms, mv, k, i, rfl, rfl, hj, HS, HF, HL, HA⟩ := hrel
    by_cases hgo : (j : Int) < fuel ∧ j < 200
    · obtain ⟨g1, g2⟩ := hgo
      obtain ⟨a1, k1, c1, rfl, hk1⟩ : ∃ a n c, sv = .slice a n c ∧ n = st.length := by
        obtain ⟨a, c, e⟩ := HS.out.us.1.form
        exact ⟨a, _, c, e, by simp⟩
      have x0 : wr.cell? ⟨w2.heap.size, 0, none⟩ = some (.int .i64 pc) := by rw [cell_of_heap HS.out.h9]; rfl
      have x1 : wr.cell? ⟨w2.heap.size, 1, none⟩ = some (.slice a1 k1 c1) := by rw [cell_of_heap HS.out.h9]; rfl
      have hra := run_at s (by omega) pc (.slice a1 k1 c1) st mv ms 1 wr HS.out.us.1 HS.out.um.1 HF.out (by have := HL.out; omega) (by omega)
      have e1 : (1 : Int).toNat = 1 := rfl
      obtain ⟨ad2, vl2, sy2, n2, hR1, hn2⟩ := @run_one s pc st ms
      rw [e1, hR1] at hra
      have HV3 : Hid _ := HA.out.von ms
      have HF2 : Hid _ := von_fine s (by omega) (by omega) HF.out
      have HN2 : Hid _ := hn2
      have HK1 : Hid _ := hk1
      clear hR1 e1 hn2 hk1
      generalize von s pc st ms = r at *
      obtain ⟨pc2, st2, ms2, k2, ad9, vl9, sy9⟩ := r
      dsimp only at *
      have hb9 : w2.heap.size < wr.heap.size := lt_of_heap HS.out.h9
      go_wp2_with fail
      refine hra.mono ?_
      clear hra x0 x1
      rintro e w3 ⟨⟨sv3, mv3, rfl, ho3, hm3⟩, hb3⟩
      obtain ⟨a3, k3, c3, rfl⟩ := own_slice ho3
      dsimp only at ho3 hm3
      obtain ⟨ma3, mk3, mc3, rfl, hmk3⟩ : ∃ a n c, mv3 = .slice a n c ∧ n = 128 := by
        obtain ⟨a, c, e⟩ := (URd.of_own hm3).form
        exact ⟨a, _, c, e, by have := HF2.out.2.trans HL.out; exact this⟩
      subst hmk3
      have HMT : Hid (∀ g, (Value.slice ma3 128 mc3).ownBlock = some g → g < w3.heap.size) := fun g hg => (hm3.lt g hg).2
      have HS3 : Hid (SK w2 w3 pc (.slice a1 k1 c1) st mv ms) := HS.out.below hb3
      have ho3' : w3.ownsRow wr.heap.size 25 1 (.slice a3 k3 c3) st2.reverse.length (uvs st2.reverse) := by rw [List.length_reverse]; exact ho3
      have HU3 : Hid (URdE w2.heap.size w3 (.slice a3 k3 c3) st2.reverse) := URdE.of_own ho3' hb9
      have HM3 : Hid (URdE w2.heap.size w3 (.slice ma3 128 mc3) ms2) := URdE.of_own hm3 hb9
      clear ho3 ho3' hm3 hb3
      dsimp only [actRow]
      go_wp2_with fail
      obtain ⟨V, hV⟩ : ∃ V, V = (w3.alloc (.cells #[.int .i64 pc2, .slice a3 k3 c3] 24)).alloc (.cells #[.int .i64 k2, .int .u64 ad2, .int .u64 vl2, .int .i64 sy2] 30) := ⟨_, rfl⟩
      rw [← hV]
      obtain ⟨q0, q1, q2, q3⟩ := laidAB hV
      have HSV : Hid (SK w2 V pc (.slice a1 k1 c1) st mv ms) := HS3.out.below q0
      have HUV : Hid (URdE w2.heap.size V (.slice a3 k3 c3) st2.reverse) := URdE.keep HU3.out (fun j hj _ => q0.block j hj)
      have HMV : Hid (URdE w2.heap.size V (.slice ma3 128 mc3) ms2) := URdE.keep HM3.out (fun j hj _ => q0.block j hj)
      have HT : Hid (V.heap[w3.heap.size]? = some (.cells #[.int .i64 pc2, .slice a3 k3 c3] 24)) := q1
      have HT2 : Hid (V.heap[w3.heap.size + 1]? = some (.cells (actRow ⟨k2, ad2, vl2, sy2⟩) 30)) := q2
      have ht12 : w2.heap.size < w3.heap.size := lt_of_heap HS3.out.h9
      have HROWV : Hid (Row V a0 l) := Row.below HROW.out HSV.out.bel
      have HIRV : Hid (IRow V b0 D) := IRow.below HIR2.out HSV.out.bel
      clear hV q0 q1 q2 q3 HS3 HU3 HM3
      generalize w3.heap.size = t12 at *
      go_loopw [16, 17] (fun a m wq => ∃ q : Nat, m = .int .i64 q ∧ q ≤ l.length ∧ a = .int .i64 (atV k q) ∧ Below V.heap.size V wq) (fun _ m _ => l.length - (intOf m).toNat)
      case atStart => exact ⟨0, rfl, Nat.zero_le _, by rw [atV_zero], Below.refl _ _⟩
      case round =>
        obtain ⟨q, rfl, hq, rfl, hbq⟩ := hrel
        have HSQ := SK.below HSV.out hbq
        have x0 : wr.cell? ⟨w2.heap.size, 0, none⟩ = some (.int .i64 pc) := by rw [cell_of_heap HSQ.h9]; rfl
        by_cases hlt : q < l.length
        · obtain ⟨y, hy⟩ : ∃ y, l[q]? = some y := ⟨l[q], List.getElem?_eq_getElem hlt⟩
          obtain ⟨ga, oa, rfl, _, _, y2, _⟩ := (Row.below HROWV.out hbq) q y hy
          by_cases hqk : q = k
          · have hyi : y.pos = pc := by
              have := HA.out.ins
              rw [← hqk, hy] at this
              cases this
              exact HA.out.pos
            have hb : (y.pos == pc) = true := by simp [hyi]
            have HH : Hid (atV k (q + 1) = q) := by show _ = _; rw [hqk]; exact atV_hit k
            clear hy hyi hqk
            go_wp2_with fail
            go_quiet (fail)
            go_wp2
            go_roundw
            case rel => exact ⟨q + 1, by go_num, by omega, by rw [HH.out], below_drewN hbq _⟩
            case measure => simp [intOf]; omega
          · have hb := HA.out.other hy hqk
            have HH : Hid (atV k (q + 1) = atV k q) := atV_miss hqk
            clear hy hqk
            go_wp2_with fail
            go_quiet (fail)
            go_wp2
            go_roundw
            case rel => exact ⟨q + 1, by go_num, by omega, by rw [HH.out], below_drewN hbq _⟩
            case measure => simp [intOf]; omega
        · obtain rfl : q = l.length := by omega
          have hkl : k < l.length := (List.getElem?_eq_some_iff.1 HA.out.ins).1
          rw [atV_end hkl]
          have HSQ' : Hid (SK w2 wr pc (.slice a1 k1 c1) st mv ms) := HSQ
          have HBQ : Hid (Below V.heap.size V wr) := hbq
          obtain ⟨gd, od, rfl, hd⟩ := (IRow.below HIRV.out hbq) k (st.length : Int) HA.out.depth
          obtain rfl := HK1.out
          have x1 : wr.cell? ⟨w2.heap.size, 1, none⟩ = some (.slice a1 st.length c1) := by rw [cell_of_heap HSQ'.out.h9]; rfl
          have hk0 : decide ((k : Int) < 0) = false := decide_eq_false (by omega)
          have hne : ((st.length : Int) != (st.length : Int)) = false := by simp
          clear HSQ hbq hq hlt
          go_wp2_with fail
          go_quiet (fail)
          obtain ⟨V5, hV5⟩ : ∃ V5, V5 = wr.drewN nq := ⟨_, rfl⟩
          rw [← hV5]
          have hb5 : Below wr.heap.size wr V5 := by rw [hV5]; exact below_drewN (Below.refl _ _) nq
          have HS5 : Hid (SK w2 V5 pc (.slice a1 st.length c1) st mv ms) := SK.below HSQ'.out hb5
          have hVV : Below V.heap.size V V5 := HBQ.out.trans (hb5.mono HBQ.out.size)
          have HU5 : Hid (URdE w2.heap.size V5 (.slice a3 k3 c3) st2.reverse) := URdE.keep HUV.out (fun j hj _ => hVV.block j hj)
          have HM5 : Hid (URdE w2.heap.size V5 (.slice ma3 128 mc3) ms2) := URdE.keep HMV.out (fun j hj _ => hVV.block j hj)
          have HT5 : Hid (V5.heap[t12]? = some (.cells #[.int .i64 pc2, .slice a3 k3 c3] 24)) := (hVV.block _ (lt_of_heap HT.out)).trans HT.out
          have HT6 : Hid (V5.heap[t12 + 1]? = some (.cells (actRow ⟨k2, ad2, vl2, sy2⟩) 30)) := (hVV.block _ (lt_of_heap HT2.out)).trans HT2.out
          obtain ⟨ga, oa, rfl, r0, r1, r2, r3⟩ := (Row.below HROWV.out hVV) k i HA.out.ins
          have hga : ga < w2.heap.size := by
            obtain ⟨g', o', e', z0, _⟩ := HROW.out k i HA.out.ins
            simp only [Option.some.injEq, Addr.mk.injEq] at e'
            obtain ⟨rfl, rfl, _⟩ := e'
            exact cell_lt z0
          have kk : V5.cell? ⟨t12 + 1, 0, none⟩ = some (.int .i64 k2) := by rw [cell_of_heap HT6.out]; rfl
          have ht5 : t12 + 1 < V5.heap.size := lt_of_heap HT6.out
          clear hV5 hb5 hVV x0 x1 hd hne
          rcases HV3.out with ⟨rfl, k', i', hA'⟩ | ⟨rfl, hop⟩ | ⟨rfl, hop⟩
          · have HA2 : Hid (At s l D k' i' pc2 st2) := hA'
            have y0 : V5.cell? ⟨t12, 0, none⟩ = some (.int .i64 pc2) := by rw [cell_of_heap HT5.out]; rfl
            have y1 : V5.cell? ⟨t12, 1, none⟩ = some (.slice a3 k3 c3) := by rw [cell_of_heap HT5.out]; rfl
            have z0 : V5.cell? ⟨w2.heap.size, 0, none⟩ = some (.int .i64 pc) := by rw [cell_of_heap HS5.out.h9]; rfl
            have z1 : V5.cell? ⟨w2.heap.size, 1, none⟩ = some (.slice a1 st.length c1) := by rw [cell_of_heap HS5.out.h9]; rfl
            have f0 : V5.frozen? ⟨w2.heap.size, 0, none⟩ = false := frozen_of_heap HS5.out.h9
            have f1 : V5.frozen? ⟨w2.heap.size, 1, none⟩ = false := frozen_of_heap HS5.out.h9
            have HS6 : Hid (SK w2 (put2 V5 w2.heap.size (.int .i64 pc2) (.slice a3 k3 c3)) pc2 (.slice a3 k3 c3) st2 (.slice ma3 128 mc3) ms2) := SK.next HS5.out.h9 HS5.out.bel HU5.out HM5.out
            clear hA'
            go_wp2
            go_roundw
            case rel => exact ⟨j + 1, pc2, _, st2, ms2, _, k', i', rfl, by go_num, by omega, HS6, HF2.out.1, HF2.out.2.trans HL.out, HA2⟩
            case measure => simp [intOf]; omega
          · obtain rfl : n2 = 0 := HN2.out (by omega)
            rcases hop with hop | hop | hop | hop
            all_goals
              rw [hop] at r0
              clear hop r1 r2 r3
              go_wp2_with fail
              refine (awake_at _).mono ?_
              rintro e w9 ⟨rfl, hb9'⟩
              have HB9 : Hid (Below w.heap.size w w9) := (HB2.out.trans (HS5.out.bel.mono HB2.out.size)).trans (hb9'.mono (Nat.le_trans HB2.out.size HS5.out.bel.size))
              go_wp2
              go_ret
              exact ⟨rfl, HB9.out⟩
          · have ho := HA.out.one
            obtain ⟨ar0, ar1, hnext⟩ := HA.out.sys hop
            have hlen9 := (one_good (s := s) (pc := pc) (by omega) (by rw [ho])).2.2.2.1
            have hdn := done_at s (by omega) pc HF.out.pc (.slice a1 st.length c1) st (j : Int) V5 HS5.out.us.1 (by have := HF.out.len; omega) (by rw [ho]) (by rw [ho]; exact hop) (by rw [ho]; exact ar0) (by rw [ho]; exact ar1)
            have hpos9 := (one_good (s := s) (pc := pc) (by omega) (by rw [ho])).2.2.2.2.1
            rw [ho] at hdn hlen9 hpos9
            obtain ⟨k', i', hA'⟩ := hnext (j : Int)
            have HA2 : Hid (At s l D k' i' (pc + i.len) ((j : Int) :: st.drop (argsOf i.arg).toNat)) := hA'
            have hst' : (((j : Int) :: st.drop (argsOf i.arg).toNat).length) ≤ 99990 := by
              have hm37 := HA.out.moves
              have hr37 := movesOf_range i.op i.arg
              simp only [List.length_cons, List.length_drop]
              omega
            have HFN : Hid (Fine7 99990 (pc + i.len) ((j : Int) :: st.drop (argsOf i.arg).toNat) ms2) := by
              refine ⟨by dsimp only at *; omega, hst', ?_, HF2.out.1.ms⟩
              intro x hx
              rcases List.mem_cons.1 hx with rfl | hx
              · unfold Wd; omega
              · exact HF.out.st x (List.mem_of_mem_drop hx)
            generalize (j : Int) :: st.drop (argsOf i.arg).toNat = st4 at *
            generalize pc + i.len = pc4 at *
            rw [hop] at r0
            have z0 : V5.cell? ⟨w2.heap.size, 0, none⟩ = some (.int .i64 pc) := by rw [cell_of_heap HS5.out.h9]; rfl
            have z1 : V5.cell? ⟨w2.heap.size, 1, none⟩ = some (.slice a1 st.length c1) := by rw [cell_of_heap HS5.out.h9]; rfl
            clear ho ar0 ar1 hnext hlen9 hpos9 hA' hst' hop
            go_wp2_with fail
            refine hdn.mono ?_
            clear hdn z0 z1
            rintro e w6 ⟨u, rfl, hou, hb6⟩
            obtain ⟨ua, uk, uc, rfl⟩ := own_slice hou
            have hou' : w6.ownsRow V5.heap.size 25 1 (.slice ua uk uc) st4.reverse.length (uvs st4.reverse) := by rw [List.length_reverse]; exact hou
            have HS6 : Hid (SK w2 w6 pc (.slice a1 st.length c1) st mv ms) := SK.below HS5.out hb6
            have HT7 : Hid (w6.heap[t12]? = some (.cells #[.int .i64 pc2, .slice a3 k3 c3] 24)) := (hb6.block _ (lt_of_heap HT5.out)).trans HT5.out
            have HM6 : Hid (URdE w2.heap.size w6 (.slice ma3 128 mc3) ms2) := URdE.keep HM5.out (fun j hj _ => hb6.block j hj)
            have e2 : ∀ j, j ≠ t12 → (put2 w6 t12 (.int .i64 pc4) (.slice ua uk uc)).heap[j]? = w6.heap[j]? := fun j hj => by
              unfold put2
              rw [Below.heap_setCell _ _ _ _ hj, Below.heap_setCell _ _ _ _ hj]
            have HS7 : Hid (SK w2 (put2 (put2 w6 t12 (.int .i64 pc4) (.slice ua uk uc)) w2.heap.size (.int .i64 pc4) (.slice ua uk uc)) pc4 (.slice ua uk uc) st4 (.slice ma3 128 mc3) ms2) := by
              refine SK.next ((e2 _ (by omega)).trans HS6.out.h9) ?_ ?_ ?_
              · exact ⟨HS6.out.bel.os, HS6.out.bel.tape, HS6.out.bel.output, by simpa [put2, World.setCell] using HS6.out.bel.size, fun j hj => (e2 j (by omega)).trans (HS6.out.bel.block j hj)⟩
              · exact ⟨(URdE.keep (URdE.of_own hou' (show t12 < V5.heap.size by omega)) (fun j _ hj => e2 j hj)).1, fun _ g hg => by have := (hou.lt g hg).1; omega⟩
              · exact ⟨(URdE.keep (b := t12) ⟨HM6.out.1, fun _ g hg => by have := HMT.out g hg; omega⟩ (fun j _ hj => e2 j hj)).1, HM6.out.2⟩
            have r0' : w6.cell? ⟨ga, oa + k * 4, none⟩ = some (.int .i64 23) := (hb6.cell (cell_lt r0)).trans r0
            have y0 : w6.cell? ⟨t12, 0, none⟩ = some (.int .i64 pc2) := by rw [cell_of_heap HT7.out]; rfl
            have y1 : w6.cell? ⟨t12, 1, none⟩ = some (.slice a3 k3 c3) := by rw [cell_of_heap HT7.out]; rfl
            have f0 : w6.frozen? ⟨t12, 0, none⟩ = false := frozen_of_heap HT7.out
            have f1 : w6.frozen? ⟨t12, 1, none⟩ = false := frozen_of_heap HT7.out
            have z0 : w6.cell? ⟨w2.heap.size, 0, none⟩ = some (.int .i64 pc) := by rw [cell_of_heap HS6.out.h9]; rfl
            have z1 : w6.cell? ⟨w2.heap.size, 1, none⟩ = some (.slice a1 st.length c1) := by rw [cell_of_heap HS6.out.h9]; rfl
            have f2 : w6.frozen? ⟨w2.heap.size, 0, none⟩ = false := frozen_of_heap HS6.out.h9
            have f3 : w6.frozen? ⟨w2.heap.size, 1, none⟩ = false := frozen_of_heap HS6.out.h9
            have n1 : ga ≠ t12 := by omega
            have n2' : t12 ≠ ga := by omega
            have n3 : w2.heap.size ≠ t12 := by omega
            have n4 : t12 ≠ w2.heap.size := by omega
            clear hou hou' hb6 e2 r0 r1 r2 r3 kk
            go_wp2
            go_roundw
            case rel => exact ⟨j + 1, pc4, _, st4, ms2, _, k', i', rfl, by go_num, by omega, HS7, HFN, HF2.out.2.trans HL.out, HA2⟩
            case measure => simp [intOf]; omega
    · have HS5 : Hid (SK w2 wr pc sv st mv ms) := HS.out
      by_cases hfu : (j : Int) < fuel
      · obtain rfl : j = 200 := by omega
        go_wp2_with fail
        refine (awake_at _).mono ?_
        rintro e w9 ⟨rfl, hb9'⟩
        have HB9 : Hid (Below w.heap.size w w9) := (HB2.out.trans (HS5.out.bel.mono HB2.out.size)).trans (hb9'.mono (Nat.le_trans HB2.out.size HS5.out.bel.size))
        go_wp2
        go_ret
        exact ⟨rfl, HB9.out⟩
      · 
        go_wp2_with fail
        refine (awake_at _).mono ?_
        rintro e w9 ⟨rfl, hb9'⟩
        have HB9 : Hid (Below w.heap.size w w9) := (HB2.out.trans (HS5.out.bel.mono HB2.out.size)).trans (hb9'.mono (Nat.le_trans HB2.out.size HS5.out.bel.size))
        go_wp2
        go_ret
        exact ⟨rfl, HB9.out⟩
end Go.Proofs.Ytedkijionpkmmaa
