/- The reference of package fds: Encode. -/
import Derived.Test.YtkdbmfckfbmbiaaRfQ18
namespace Go.Proofs.Ytkdbmfckfbmbiaa
open Go.RowKit
set_option linter.unusedVariables false

theorem at_cn (S : FS) (m j : Nat) (hm : m < 8) (hj : j < 6) : atR S ((m : Int) + 1) j + 1 = (inO S.t (m * 6 + j) : Nat) := by
  unfold atR inO cn
  rw [nm_of hm hj]
  by_cases h : S.t (m * 6 + j) = 0
  · rw [if_pos h, if_pos h]
    rfl
  · rw [if_neg h, if_neg h, if_pos ((mem_ord _ _).2 ⟨h, m * 6 + j, by omega, rfl⟩)]
    rfl
theorem inO_le (t : Nat → Nat) (k : Nat) : inO t k ≤ 48 := by
  unfold inO cn
  split
  · omega
  · split
    · rename_i hm
      have := List.idxOf_lt_length_of_mem hm
      have := ord_len48 t
      omega
    · omega
set_option maxRecDepth 100000 in
set_option maxHeartbeats 4000000 in
theorem rencode_at (B c : Nat) (v : Value) (L : List En) (S : FS) (w : World) (h : RIs w B c v L) (hL : RL L S) (hI : Inv S) (hF : FitS S) :
    Calls Try.prog 32 #[.pointer (some ⟨c, 0, none⟩)] w fun e w' => ∃ u, e = .returned u ∧ w'.ownsRow w.heap.size 85 1 u (encW S).length (uvs (encW S)) ∧ Below w.heap.size w w' := by
  obtain ⟨av, cv, rfl, hcv⟩ := h.form
  have hll := hL.ll
  have hlo := hL.len
  have c0 := h.c0
  generalize hlg : L.length = ll at *
  have HLl : Hid (L.length = ll) := hlg
  have HLo : Hid (ll = (ord S.t).length) := hlo
  have HH : Hid (RIs w B c (.slice av ll cv) L) := h
  have HL : Hid (RL L S) := hL
  have HI : Hid (Inv S) := hI
  have HF : Hid (FitS S) := hF
  have hwn : IntKind.u64.wrap (ll : Int) = ll := by
    simp [IntKind.wrap, IntKind.bits, IntKind.signed]
    omega
  have HE0 : Hid ((w.alloc (.cells #[.int .u64 ll] 85)).ownsRow w.heap.size 85 1 (.slice (some ⟨w.heap.size, 0, none⟩) 1 1) (encHk S 0).length (uvs (encHk S 0))) := by
    have : encHk S 0 = [(ll : Int)] := by unfold encHk; rw [HLo.out]; rfl
    rw [this]
    exact own_one w.heap.size ll (Nat.le_refl _)
  clear h hL hI hF hlg hlo
  go_enter Try.func32, Try.ntmps32
  go_wp2
  clear c0
  go_loopw [3, 4] (fun s i wr => ∃ (k n cp : Nat) (a : Option Addr), k ≤ ll ∧ i = .int .i64 k ∧ s = .slice a n cp ∧ Hid ((encHk S k).length = n) ∧ wr.ownsRow w.heap.size 85 1 (.slice a n cp) (encHk S k).length (uvs (encHk S k)) ∧ Below w.heap.size w wr) (fun _ i _ => ll - (intOf i).toNat)
  case atStart => exact ⟨0, 1, 1, _, by omega, rfl, rfl, (show Hid _ from rfl), HE0.out, below_alloc _ _⟩
  case round =>
    clear HE0
    obtain ⟨k, n, cp, a, hk, rfl, rfl, HN, hown, hb⟩ := hrel
    have hR := HH.out.below hb
    have c0 := hR.c0
    have hnl : n ≤ 200 := by have := encHk_len S k; have := HN.out; omega
    have HB : Hid (Below w.heap.size w wr) := hb
    have HO : Hid (wr.ownsRow w.heap.size 85 1 (.slice a n cp) (encHk S k).length (uvs (encHk S k))) := hown
    by_cases hlt : k < ll
    · obtain ⟨q, hq⟩ : ∃ q, (ord S.t)[k]? = some q := ⟨(ord S.t)[k]'(by rw [← HLo.out]; exact hlt), List.getElem?_eq_getElem _⟩
      obtain ⟨e, he⟩ := HL.out.some hq
      obtain ⟨e1, -⟩ := HL.out.get he hq
      obtain ⟨-, -, hfit⟩ := fit_ord HI.out HF.out hq
      rw [← e1] at hfit
      obtain ⟨g, cap, e2, _, _, hc⟩ := hR.at he
      simp only [Value.slice.injEq] at e2
      obtain ⟨rfl, -, rfl⟩ := e2
      have HS : Hid (encHk S (k + 1) = encHk S k ++ flW e.x) := by show _ = _; rw [encHk_succ S k q hq, e1]
      have d0 : wr.cell? ⟨g, k * 6, none⟩ = some (.int .i64 e.x.kind) := hc 0 (by omega)
      have d1 : wr.cell? ⟨g, k * 6 + 1, none⟩ = some (.int .i64 e.x.id) := hc 1 (by omega)
      have d2 : wr.cell? ⟨g, k * 6 + 2, none⟩ = some (.int .i64 e.x.off) := hc 2 (by omega)
      have d3 : wr.cell? ⟨g, k * 6 + 3, none⟩ = some (.bool e.x.app) := hc 3 (by omega)
      have d4 : wr.cell? ⟨g, k * 6 + 4, none⟩ = some (.int .i64 e.x.refs) := hc 4 (by omega)
      have hki : (k : Int) < (ll : Int) := by omega
      have i1 : decide ((k : Int) < (ll : Int)) = true := decide_eq_true hki
      generalize e.x = x at *
      obtain ⟨xk, xi, xo, xa, xr⟩ := x
      obtain ⟨k1, k2, i1', i2, o1, o2⟩ := hfit
      dsimp only at *
      have wk : IntKind.u64.wrap xk = xk := by simp [IntKind.wrap, IntKind.bits, IntKind.signed]; omega
      have wi : IntKind.u64.wrap xi = xi := by simp [IntKind.wrap, IntKind.bits, IntKind.signed]; omega
      have wo : IntKind.u64.wrap xo = xo := by simp [IntKind.wrap, IntKind.bits, IntKind.signed]; omega
      clear hR hc he hq e1 hown hb k1 k2 i1' i2 o1 o2
      go_wp2_with fail
      have hnewV : (wr.alloc (.cells #[.int .i64 xk, .int .i64 xi, .int .i64 xo, .bool xa, .int .i64 xr] 30)).heap[wr.heap.size]? = some (.cells #[.int .i64 xk, .int .i64 xi, .int .i64 xo, .bool xa, .int .i64 xr] 30) := heap_alloc_new _ _
      have HOV : Hid ((wr.alloc (.cells #[.int .i64 xk, .int .i64 xi, .int .i64 xo, .bool xa, .int .i64 xr] 30)).ownsRow w.heap.size 85 1 (.slice a n cp) (encHk S k).length (uvs (encHk S k))) := ownsRow_below HO.out (below_alloc _ _)
      have HBV : Hid (Below w.heap.size w (wr.alloc (.cells #[.int .i64 xk, .int .i64 xi, .int .i64 xo, .bool xa, .int .i64 xr] 30))) := HB.out.trans ((below_alloc _ _).mono HB.out.size)
      generalize hV : wr.alloc (.cells #[.int .i64 xk, .int .i64 xi, .int .i64 xo, .bool xa, .int .i64 xr] 30) = V at *
      generalize wr.heap.size = X at *
      obtain ⟨bi, hbi⟩ : ∃ bi : Int, (if xa then (1 : Int) else 0) = bi := ⟨_, rfl⟩
      have hbt := fun W => rbit_at xa W
      simp only [hbi] at hbt
      obtain ⟨a', c', w', hrun, hown', hbel', hgr⟩ := app4 HOV.out HN.out HBV.out.size (by omega) xk xi xo bi true
      have hbv : Below w.heap.size V w' := hbel'
      have HRun : Hid _ := hrun
      have HO' : Hid (w'.ownsRow w.heap.size 85 1 (.slice a' (n + 4) c') (encHk S (k + 1)).length (uvs (encHk S (k + 1)))) := by rw [HS.out]; rw [← hbi] at hown'; exact hown'
      have HB' : Hid (Below w.heap.size w w') := HBV.out.trans hbel'
      have z0 : V.cell? ⟨X, 0, none⟩ = some (.int .i64 xk) := by rw [cell_of_heap hnewV]; rfl
      have z1 : V.cell? ⟨X, 1, none⟩ = some (.int .i64 xi) := by rw [cell_of_heap hnewV]; rfl
      have z2 : V.cell? ⟨X, 2, none⟩ = some (.int .i64 xo) := by rw [cell_of_heap hnewV]; rfl
      have z3 : V.cell? ⟨X, 3, none⟩ = some (.bool xa) := by rw [cell_of_heap hnewV]; rfl
      have hnw : w'.heap[X]? = some (.cells #[.int .i64 xk, .int .i64 xi, .int .i64 xo, .bool xa, .int .i64 xr] 30) := by
        refine (hgr.block X (lt_of_heap hnewV) (fun e => ?_)).trans hnewV
        obtain ⟨cs, hcs⟩ := own_type HOV.out (g := X) e.symm
        rw [hcs] at hnewV
        simp only [Option.some.injEq, Obj.cells.injEq] at hnewV
        exact absurd hnewV.2.1 (by decide)
      have y0 : w'.cell? ⟨X, 0, none⟩ = some (.int .i64 xk) := by rw [cell_of_heap hnw]; rfl
      have y1 : w'.cell? ⟨X, 1, none⟩ = some (.int .i64 xi) := by rw [cell_of_heap hnw]; rfl
      have y2 : w'.cell? ⟨X, 2, none⟩ = some (.int .i64 xo) := by rw [cell_of_heap hnw]; rfl
      have y3 : w'.cell? ⟨X, 3, none⟩ = some (.bool xa) := by rw [cell_of_heap hnw]; rfl
      have HN' : Hid ((encHk S (k + 1)).length = n + 4) := by show _ = _; rw [HS.out, List.length_append, HN.out]; rfl
      clear hbi hV hnewV hnw hgr c0 d0 d1 d2 d3 d4 hrun hown' hbel' HO HB HOV HBV hbv
      go_region_held3 (fun w' => w'.cell? ⟨X, 0, none⟩ = some (.int .i64 xk) ∧ w'.cell? ⟨X, 1, none⟩ = some (.int .i64 xi) ∧ w'.cell? ⟨X, 2, none⟩ = some (.int .i64 xo) ∧ w'.cell? ⟨X, 3, none⟩ = some (.bool xa))
        (first | go_keep | (exact ⟨z0, z1, z2, z3⟩) | (exact ⟨y0, y1, y2, y3⟩))
        (first
          | (go_at_call 52; refine (hbt _).mono ?_; rintro e wq ⟨rfl, rfl⟩)
          | (refine step_append_eq rfl (.tmp 32) (.tmp 45) 52 rfl (.slice a n cp) (.slice (some ⟨V.heap.size, 0, none⟩) 4 4) (.slice a' (n + 4) c') (by rfl) (by rfl) HRun.out ?_))
      all_goals
        go_wp2
        go_roundw
        case rel => exact ⟨k + 1, n + 4, c', a', by omega, by go_num, rfl, HN', HO'.out, HB'.out⟩
        case measure => simp [intOf]; omega
    · obtain rfl : k = ll := by omega
      have hal : encHk S k = encH S ++ encN S (0 * 6) := by
        have : encN S (0 * 6) = [] := rfl
        rw [this, List.append_nil, HLo.out]
        exact encHk_all S
      have hEl : (encH S).length ≤ 1 + 48 * 4 := by rw [encH_len]; have := ord_len48 S.t; omega
      rw [hal] at HO HN
      have HEl : Hid ((encH S).length ≤ 193) := hEl
      clear hR hown hb hal hEl
      go_wp2
      go_loopw [3, 6] (fun s i wr => ∃ (m n cp : Nat) (a : Option Addr), m ≤ 8 ∧ i = .int .i64 ((m : Int) + 1) ∧ s = .slice a n cp ∧ Hid ((encH S ++ encN S (m * 6)).length = n) ∧ wr.ownsRow w.heap.size 85 1 (.slice a n cp) (encH S ++ encN S (m * 6)).length (uvs (encH S ++ encN S (m * 6))) ∧ Below w.heap.size w wr) (fun _ i _ => 9 - (intOf i).toNat)
      case atStart => exact ⟨0, n, cp, a, by omega, rfl, rfl, HN, HO.out, HB.out⟩
      case round =>
        clear HO HB HN hnl
        obtain ⟨m, n, cp, a, hm, rfl, rfl, HN, hown, hb⟩ := hrel
        have HB : Hid (Below w.heap.size w wr) := hb
        have HO : Hid (wr.ownsRow w.heap.size 85 1 (.slice a n cp) (encH S ++ encN S (m * 6)).length (uvs (encH S ++ encN S (m * 6)))) := hown
        clear hown hb
        by_cases hlm : m < 8
        · have i1 : decide ((m : Int) + 1 ≤ 8) = true := decide_eq_true (by omega)
          go_wp2
          go_loopw [3, 7] (fun s i wr => ∃ (j n cp : Nat) (a : Option Addr), j ≤ 6 ∧ i = .int .i64 j ∧ s = .slice a n cp ∧ Hid ((encH S ++ encN S (m * 6 + j)).length = n) ∧ wr.ownsRow w.heap.size 85 1 (.slice a n cp) (encH S ++ encN S (m * 6 + j)).length (uvs (encH S ++ encN S (m * 6 + j))) ∧ Below w.heap.size w wr) (fun _ i _ => 6 - (intOf i).toNat)
          case atStart => exact ⟨0, n, cp, a, by omega, rfl, rfl, HN, HO.out, HB.out⟩
          case round =>
            clear HO HB HN
            obtain ⟨j, n, cp, a, hj, rfl, rfl, HN, hown, hb⟩ := hrel
            have HB : Hid (Below w.heap.size w wr) := hb
            have HO : Hid (wr.ownsRow w.heap.size 85 1 (.slice a n cp) (encH S ++ encN S (m * 6 + j)).length (uvs (encH S ++ encN S (m * 6 + j)))) := hown
            by_cases hlj : j < 6
            · have i2 : decide ((j : Int) < 6) = true := decide_eq_true (by omega)
              have hA := ra_at B c _ L S ((m : Int) + 1) j wr (HH.out.below hb) HL.out
              have hcn := at_cn S m j hlm hlj
              have hle := inO_le S.t (m * 6 + j)
              have HEn : Hid (encN S (m * 6 + (j + 1)) = encN S (m * 6 + j) ++ [(inO S.t (m * 6 + j) : Int)]) := encN_succ S (m * 6 + j)
              have hnl : n ≤ 300 := by have h8 := HN.out; have h9 := HEl.out; rw [List.length_append, encN_len] at h8; omega
              obtain ⟨a', c', w', hrun, hown', hbel'⟩ := app1 hown HN.out hb.size (by omega) (inO S.t (m * 6 + j) : Int)
              have HO' : Hid (w'.ownsRow w.heap.size 85 1 (.slice a' (n + 1) c') (encH S ++ encN S (m * 6 + (j + 1))).length (uvs (encH S ++ encN S (m * 6 + (j + 1))))) := by rw [HEn.out, ← List.append_assoc]; exact hown'
              have HN' : Hid ((encH S ++ encN S (m * 6 + (j + 1))).length = n + 1) := by show _ = _; rw [HEn.out, ← List.append_assoc, List.length_append, HN.out]; rfl
              have HB' : Hid (Below w.heap.size w w') := hb.trans hbel'
              have HRun : Hid _ := hrun
              generalize atR S ((m : Int) + 1) j = at0 at *
              generalize inO S.t (m * 6 + j) = x at *
              obtain rfl : at0 = (x : Int) - 1 := by omega
              have hx1 : IntKind.i64.wrap ((x : Int) - 1 + 1) = x := by
                simp [IntKind.wrap, IntKind.bits, IntKind.signed]
                omega
              have hwx : IntKind.u64.wrap (x : Int) = x := by
                simp [IntKind.wrap, IntKind.bits, IntKind.signed]
                omega
              clear hown hb hcn hrun hown' hbel' HEn HO HB HN
              go_wp2_with fail
              refine hA.mono ?_
              rintro e w1 ⟨rfl, hw⟩
              rw [hw]
              clear hw w1 hA
              go_wp2_with (at_builtin; refine wpList_append_eq rfl _ _ _ rfl _ _ _ rfl rfl HRun.out ?_)
              go_roundw
              case rel => exact ⟨j + 1, n + 1, c', a', by omega, by go_num, rfl, HN', HO'.out, HB'.out⟩
              case measure => simp [intOf]; omega
            · obtain rfl : j = 6 := by omega
              clear hown hb
              go_wp2
              go_roundw
              case rel => exact ⟨m + 1, n, cp, a, by omega, by go_num, rfl, by rw [show (m + 1) * 6 = m * 6 + 6 by omega]; exact HN, by rw [show (m + 1) * 6 = m * 6 + 6 by omega]; exact HO.out, HB.out⟩
              case measure => simp [intOf]; omega
        · obtain rfl : m = 8 := by omega
          go_wp2
          go_ret
          exact ⟨_, rfl, HO.out, HB.out⟩
end Go.Proofs.Ytkdbmfckfbmbiaa
