/- Package procs: Wait. -/
import Derived.Test.YtfcpcncafopobaaPcB
import Derived.Deep.RegionLaw
namespace Go.Proofs.Ytfcpcncafopobaa
open Go.RowKit Go.Maps
set_option linter.unusedVariables false

theorem results_tmp4 {fn : Func} {t u v s : Tmp} (h : fn.results = #[.tmp t, .tmp u, .tmp v, .tmp s]) (tmps : Array Value) (P : Program) (w : World) :
    (results fn tmps).run P w = .ok (.tuple #[tmps.getD t undef, tmps.getD u undef, tmps.getD v undef, tmps.getD s undef]) w := by
  simp [results, h]
theorem mine_at (c g : Nat) (k : Int) (p : Pr) (w : World) (hc : w.heap[c]? = some (.cells (prow p) 69)) (hg : w.cell? ⟨g, 0, none⟩ = some (.int .i64 k)) :
    Calls Try.prog 36 #[ptr c, ptr g] w fun e w' => e = .returned (.bool (p.par == k)) ∧ ∃ q, w' = w.drewN q := by
  have c0 : w.cell? ⟨c, 0, none⟩ = some (.int .i64 p.par) := by rw [cell_of_heap hc]; rfl
  have d0 : w.drew.cell? ⟨c, 0, none⟩ = some (.int .i64 p.par) := c0
  have dg : w.drew.cell? ⟨g, 0, none⟩ = some (.int .i64 k) := hg
  clear hc
  go_enter Try.func36, Try.ntmps36
  go_wp2_with fail
  go_region
  all_goals
    go_wp2
    go_ret
    exact ⟨rfl, 1, rfl⟩
theorem mine_cf (args : Array Value) (W : World) : (callFunc 36 args).run Try.prog W = .ok (.enter 36 args) W := by kernel_rfl
theorem find_at {t : Int → Bool} : ∀ {l : List Int} {i : Nat} {x : Int}, l[i]? = some x → t x = true → (∀ j y, j < i → l[j]? = some y → t y = false) → l.find? t = some x
  | [], i, x, h, _, _ => by simp at h
  | a :: l, 0, x, h, ht, _ => by
    simp at h
    subst h
    rw [List.find?_cons, ht]
  | a :: l, i + 1, x, h, ht, hl => by
    rw [List.find?_cons, hl 0 a (by omega) rfl]
    exact find_at (i := i) (by simpa using h) ht (fun j y hj hy => hl (j + 1) y (by omega) (by simpa using hy))
theorem PrIs.del {w W : World} {B b m : Nat} {c : Int → Nat} {S : St} (h : PrIs w B b (some m) c S) {k : Int} (hu : Upd m w W) (hm : MapIs W .i64 m (fdel (pf S c) k)) : PrIs W B b (some m) c (stDel S k) := by
  have hat : ∀ j q, stDel S k j = some q → S j = some q := by
    intro j q hj
    unfold stDel at hj
    split at hj
    · cases hj
    · exact hj
  have hs : ∀ j, (stDel S k j).isSome = true → (S j).isSome = true := by
    intro j hj
    obtain ⟨q, hq⟩ := Option.isSome_iff_exists.1 hj
    rw [hat j q hq]
    rfl
  refine ⟨(hu.block b h.lt (h.bm m rfl)).trans h.head, Or.inr ⟨m, rfl, ?_⟩, fun j q hj => ?_, fun i j hi hj => h.inj i j (hs i hi) (hs j hj), h.dom.del k, h.bB, h.mB, fun j q hj => h.cB j q (hat j q hj)⟩
  · have : pf (stDel S k) c = fdel (pf S c) k := by
      funext x
      unfold pf fdel stDel
      by_cases e : x = k
      · rw [if_pos e, if_pos e]; rfl
      · rw [if_neg e, if_neg e]
    rw [this]; exact hm
  · rw [hu.block _ (h.clt (hat j q hj)) (h.cm (hat j q hj) m rfl)]
    exact h.pr j q (hat j q hj)
theorem wait_nil (k : Int) (w : World) : Calls Try.prog 15 #[.pointer none, .int .i64 k] w fun e w' => e = .returned (.tuple #[.int .i64 0, .int .i64 0, .int .i64 3, .bool false]) ∧ Below w.heap.size w w' := by
  obtain ⟨W, hW⟩ : ∃ W, W = w.alloc (.cells #[.int .i64 k] 3) := ⟨_, rfl⟩
  have HB : Hid (Below w.heap.size w W) := by rw [hW]; exact below_alloc _ _
  have hc : W.cell? ⟨w.heap.size, 0, none⟩ = some (.int .i64 k) := by rw [hW, cell_of_heap (heap_alloc_new _ _)]; rfl
  have hv := live_nil k W
  have HW : Hid _ := hW
  clear hW
  go_enter Try.func15, Try.ntmps15
  go_upto_region 1 with fail
  rw [← HW.out]
  go_wp2_with fail
  refine hv.mono ?_
  rintro e w1 ⟨rfl, hw⟩
  rw [hw]
  clear hw w1 hv
  go_wp2
  (try simp only [Exit.inBlock, Exit.then])
  refine bodyPost_ret (results_tmp4 rfl _ _ _) rfl ?_
  exact ⟨rfl, HB.out⟩
set_option maxRecDepth 100000 in
set_option maxHeartbeats 4000000 in
theorem wait_at (B b : Nat) (S : St) (k : Int) (w : World) (h : PrAt w B b S) :
    Calls Try.prog 15 #[ptr b, .int .i64 k] w fun e w' => e = .returned (.tuple #[.int .i64 (wtN S k), .int .i64 (wtT S k), .int .i64 (wtE S k), .bool (wtB S k)]) ∧ PrAt w' B b (wtS S k) ∧ Tch B w w' := by
  obtain ⟨W, hW⟩ : ∃ W, W = w.alloc (.cells #[.int .i64 k] 3) := ⟨_, rfl⟩
  have hbW : Below w.heap.size w W := by rw [hW]; exact below_alloc _ _
  have hg : W.heap[w.heap.size]? = some (.cells #[.int .i64 k] 3) := by rw [hW]; exact heap_alloc_new _ _
  have hcg : W.cell? ⟨w.heap.size, 0, none⟩ = some (.int .i64 k) := by rw [cell_of_heap hg]; rfl
  have hAW := h.below hbW
  have hv := live_at B b S k W hAW
  have hlowW := h.low
  have HT0 : Hid (Tch B w W) := Tch.of_below hbW
  have HW : Hid _ := hW
  cases hk : liv S k with
  | false =>
    have HR : Hid (wtN S k = 0 ∧ wtT S k = 0 ∧ wtE S k = 3 ∧ wtB S k = false ∧ wtS S k = S) := by
      have e : wtN S k = 0 := by unfold wtN; rw [hk, if_neg (by simp)]
      refine ⟨e, ?_, ?_, ?_, ?_⟩
      · unfold wtT; rw [if_pos e]
      · unfold wtE; rw [hk, if_neg (by simp)]
      · unfold wtB; rw [e]; rfl
      · unfold wtS; rw [if_pos e]
    have HA : Hid (PrAt W B b S) := hAW
    rw [hk] at hv
    clear hW hbW hg hAW hk h hlowW
    go_enter Try.func15, Try.ntmps15
    go_upto_region 1 with fail
    rw [← HW.out]
    go_wp2_with fail
    refine hv.mono ?_
    rintro e w1 ⟨rfl, hw⟩
    rw [hw]
    clear hw w1 hv
    go_wp2
    (try simp only [Exit.inBlock, Exit.then])
    refine bodyPost_ret (results_tmp4 rfl _ _ _) rfl ?_
    obtain ⟨e1, e2, e3, e4, e5⟩ := HR.out
    exact ⟨by rw [e1, e2, e3, e4]; rfl, by rw [e5]; exact HA.out, HT0.out⟩
  | true =>
    have hT := those_at B b S 36 #[ptr w.heap.size] (fun p => p.par == k) W hAW mine_cf (fun V c p hb hc => mine_at c w.heap.size k p V hc (by
      rw [cell_of_heap ((hb.block _ (lt_of_heap hg)).trans hg)]; rfl))
    have HA : Hid (PrAt W B b S) := hAW
    have HLv : Hid (liv S k = true) := hk
    have HD : Hid (Dom S) := h.dom
    rw [hk] at hv
    obtain ⟨L, hL⟩ : ∃ L, L = chs S k := ⟨_, rfl⟩
    have hT2 : Calls Try.prog 35 #[ptr b, .func (.func 36) #[] #[ptr w.heap.size]] W fun e w' => ∃ a cap, e = .returned (.slice a L.length cap) ∧ IRow w' a L ∧ Below W.heap.size W w' := by rw [hL]; exact hT
    have HLd : Hid (L = chs S k) := hL
    have HLow : Hid (B ≤ W.heap.size) := hAW.low
    have hL8 : L.length ≤ 8 := by rw [hL]; exact lst_len _ _
    have hmf : ∀ (fn : Fn) (first cap : Array Value) (w : World), (Instr.makeFunc fn first cap).run Try.prog w = .ok (.func fn first cap) w := fun _ _ _ _ => rfl
    clear hW hbW hg hAW hk h hlowW hT hL
    go_enter Try.func15, Try.ntmps15
    go_upto_region 1 with fail
    rw [← HW.out]
    go_wp2_with fail
    refine hv.mono ?_
    rintro e w1 ⟨rfl, hw⟩
    rw [hw]
    clear hw w1 hv HW
    go_wp2_with fail
    refine hT2.mono ?_
    rintro e w1 ⟨a, cap, rfl, hI, hB1⟩
    have HI : Hid (IRow w1 a L) := hI
    have HA1 : Hid (PrAt w1 B b S) := HA.out.below hB1
    have HT1 : Hid (Tch B w w1) := HT0.out.trans (Tch.of_below hB1)
    clear hT2 hI hB1 HA HT0 hcg HLow
    by_cases h0 : L.length = 0
    · have hL0 : L = [] := List.eq_nil_of_length_eq_zero h0
      have HR : Hid (wtN S k = 0 ∧ wtT S k = 0 ∧ wtE S k = 10 ∧ wtB S k = false ∧ wtS S k = S) := by
        have e0 : chs S k = [] := by rw [← HLd.out, hL0]
        have e : wtN S k = 0 := by unfold wtN wtZ; rw [e0, if_pos HLv.out]; rfl
        refine ⟨e, ?_, ?_, ?_, ?_⟩
        · unfold wtT; rw [if_pos e]
        · unfold wtE; rw [HLv.out, if_pos rfl, if_pos e0]
        · unfold wtB; rw [e]; rfl
        · unfold wtS; rw [if_pos e]
      rw [h0]
      clear hL0 h0
      go_wp2
      (try simp only [Exit.inBlock, Exit.then])
      refine bodyPost_ret (results_tmp4 rfl _ _ _) rfl ?_
      obtain ⟨e1, e2, e3, e4, e5⟩ := HR.out
      exact ⟨by rw [e1, e2, e3, e4]; rfl, by rw [e5]; exact HA1.out, HT1.out⟩
    · have g0 : ((L.length : Int) == 0) = false := beq_false_of_ne (by omega)
      have HNe : Hid (L.length ≠ 0) := h0
      clear h0
      go_wp2
      go_loopw [24] (fun s wr => ∃ i : Nat, i ≤ L.length ∧ s = .int .i64 i ∧ (∀ j y, j < i → L[j]? = some y → hits S Pr.zom y = false) ∧ wr = w1) (fun s _ => L.length - (intOf s).toNat)
      case atStart => exact ⟨0, by omega, rfl, fun j y hj => by omega, rfl⟩
      case round =>
        obtain ⟨i, hi, rfl, hno, hw⟩ := hrel
        subst hw
        have HNo : Hid (∀ j y, j < i → L[j]? = some y → hits S Pr.zom y = false) := hno
        clear hno
        by_cases hlt : i < L.length
        · obtain ⟨x, hx⟩ : ∃ x, L[i]? = some x := ⟨L[i], List.getElem?_eq_getElem hlt⟩
          obtain ⟨ga, oa, rfl, hcell⟩ := HI.out i x hx
          have hxm : x ∈ L := List.mem_of_getElem? hx
          rw [HLd.out] at hxm
          have hxh := (mem_lst HD.out).1 hxm
          obtain ⟨p, hp⟩ : ∃ p, S x = some p := by
            unfold hits at hxh
            cases e : S x with
            | none => rw [e] at hxh; cases hxh
            | some p => exact ⟨p, rfl⟩
          have HX : Hid (L[i]? = some x) := hx
          obtain ⟨mo, c, hP⟩ := HA1.out
          have c0 := hP.cell
          have hl := hP.look_some hp
          obtain ⟨d0, d1, d2⟩ := hP.cells hp
          have HP : Hid (PrIs wr B b mo c S) := hP
          have HPx : Hid (S x = some p) := hp
          have hii : (i : Int) < (L.length : Int) := by omega
          have i1 : decide ((i : Int) < (L.length : Int)) = true := decide_eq_true hii
          clear hxm hxh hx
          cases hz : p.zom with
          | false =>
            rw [hz] at d1
            have HNo2 : Hid (∀ j y, j < i + 1 → L[j]? = some y → hits S Pr.zom y = false) := by
              intro j y hj hy
              by_cases e : j = i
              · rw [e, HX.out] at hy
                cases hy
                unfold hits
                rw [HPx.out]
                exact hz
              · exact HNo.out j y (by omega) hy
            clear hP hp hz
            generalize hcx : c x = cx at *
            clear hcx
            go_wp2
            go_roundw
            case rel => exact ⟨i + 1, by omega, by go_num, HNo2.out, by first | rfl | trivial⟩
            case measure => simp [intOf]; omega
          | true =>
            rw [hz] at d1
            obtain ⟨m, rfl⟩ : ∃ m, mo = some m := by
              rcases hP.map with ⟨_, e⟩ | ⟨m, e, _⟩
              · have := e x; unfold pf at this; rw [hp] at this; cases this
              · exact ⟨m, e⟩
            have HMm : Hid (MapIs wr .i64 m (pf S c)) := by
              rcases hP.map with ⟨e, _⟩ | ⟨m', e, hm⟩
              · cases e
              · cases e; exact hm
            have hd := HD.out x p hp
            have HR : Hid (wtN S k = x ∧ wtT S k = p.st ∧ wtE S k = 0 ∧ wtB S k = true ∧ wtS S k = stDel S x) := by
              have e0 : (chs S k).find? (hits S Pr.zom) = some x := by
                rw [← HLd.out]
                exact find_at HX.out (by unfold hits; rw [hp]; exact hz) HNo.out
              have e : wtN S k = x := by unfold wtN wtZ; rw [e0, if_pos HLv.out]; rfl
              have hx0 : x ≠ 0 := by omega
              refine ⟨e, ?_, ?_, ?_, ?_⟩
              · unfold wtT stI; rw [e, if_neg hx0, hp]
              · unfold wtE
                rw [HLv.out, if_pos rfl, if_neg]
                rw [← HLd.out]
                intro q
                have := HNe.out
                rw [q] at this
                exact this rfl
              · unfold wtB; rw [e]; exact bne_iff_ne.2 hx0
              · unfold wtS; rw [e, if_neg hx0]
            have HCm : Hid (c x ≠ m) := hP.cm hp m rfl
            have HCl : Hid (c x < wr.heap.size) := hP.clt hp
            have HCc : Hid (wr.heap[c x]? = some (.cells (prow p) 69)) := hP.pr x p hp
            clear hP hp hz hd HNo
            generalize hcx : c x = cx at *
            clear hcx
            go_wp2_with (first | (at_delete; refine wpList_del_o rfl _ _ _ _ _ rfl Try.underlying64 .i64 Try.underlying3 m (pf S c) rfl HMm.out x rfl ?_; intro w2 hm2 hu2 hs2) | go_in)
            have HA2 : Hid (PrAt w2 B b (stDel S x)) := ⟨_, _, HP.out.del hu2 hm2⟩
            have HT2 : Hid (Tch B w w2) := HT1.out.trans (Tch.of_upd hu2 (HP.out.mB m rfl) (HP.out.pbm m rfl))
            have hcc : w2.heap[cx]? = some (.cells (prow p) 69) := (hu2.block cx HCl.out HCm.out).trans HCc.out
            have k2 : w2.cell? ⟨cx, 2, none⟩ = some (.int .i64 p.st) := by rw [cell_of_heap hcc]; rfl
            have k3 : w2.drew.cell? ⟨cx, 2, none⟩ = some (.int .i64 p.st) := k2
            clear hm2 hu2 hs2 hcc c0 hl d0 d1 d2
            go_wp2_with fail
            go_region
            all_goals
              go_wp2
              (try simp only [Exit.inBlock, Exit.then])
              refine bodyPost_ret (results_tmp4 rfl _ _ _) rfl ?_
              obtain ⟨e1, e2, e3, e4, e5⟩ := HR.out
              refine ⟨by rw [e1, e2, e3, e4]; rfl, by rw [e5]; exact HA2.out.below ((Below.refl _ _).drew), HT2.out.trans (Tch.of_below ((Below.refl _ _).drew))⟩
        · have hil : i = L.length := by omega
          have i1 : decide ((i : Int) < (L.length : Int)) = false := decide_eq_false (by omega)
          have HR : Hid (wtN S k = 0 ∧ wtT S k = 0 ∧ wtE S k = 0 ∧ wtB S k = false ∧ wtS S k = S) := by
            have e0 : (chs S k).find? (hits S Pr.zom) = none := by
              rw [← HLd.out, List.find?_eq_none]
              intro y hy
              obtain ⟨j, hj⟩ := List.getElem?_of_mem hy
              rw [HNo.out j y (by have := (List.getElem?_eq_some_iff.1 hj).1; omega) hj]
              simp
            have e : wtN S k = 0 := by unfold wtN wtZ; rw [e0, if_pos HLv.out]; rfl
            refine ⟨e, ?_, ?_, ?_, ?_⟩
            · unfold wtT; rw [if_pos e]
            · unfold wtE
              rw [HLv.out, if_pos rfl, if_neg]
              rw [← HLd.out]
              intro q
              have := HNe.out
              rw [q] at this
              exact this rfl
            · unfold wtB; rw [e]; rfl
            · unfold wtS; rw [if_pos e]
          have hge : (L.length : Int) ≤ (i : Int) := by omega
          have i2 : decide (i < L.length) = false := decide_eq_false (by omega)
          clear hil
          go_wp2
          (try simp only [Exit.inBlock, Exit.then])
          refine bodyPost_ret (results_tmp4 rfl _ _ _) rfl ?_
          obtain ⟨e1, e2, e3, e4, e5⟩ := HR.out
          exact ⟨by rw [e1, e2, e3, e4]; rfl, by rw [e5]; exact HA1.out, HT1.out⟩
end Go.Proofs.Ytfcpcncafopobaa
