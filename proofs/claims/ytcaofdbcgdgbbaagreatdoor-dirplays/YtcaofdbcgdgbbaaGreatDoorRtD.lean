/- The document's answer on directories (janusref16), over a file system: Add, Remove. -/
import Derived.Test.YtcaofdbcgdgbbaaGreatDoorRtC
namespace Go.Proofs.YtcaofdbcgdgbbaaGreatDoor
open Go.RowKit Go.Lib
set_option linter.unusedVariables false

section
variable {w w' : World} {base : Nat} {v : Value} {l : List UInt8}
/-- b = append(b, y). -/
theorem Bs.push (h : Bs w base v l) (y : UInt8) (X : Nat) (hX : w.heap[X]? = some (.cells #[.int .u8 (y.toNat : Int)] 5 (0, 0))) (hl : l.length ≤ 1000) (hB : base ≤ w.heap.size) :
    ∃ g c w', (∀ ty, (Builtin.append_ #[62, 62] ty #[v, .slice (some ⟨X, 0, none⟩) 1 1]).run Tryz.prog w = .ok (.slice (some ⟨g, 0, none⟩) (l.length + 1) c) w') ∧ Bs w' base (.slice (some ⟨g, 0, none⟩) (l.length + 1) c) (l ++ [y]) ∧ Below base w w' := by
  obtain ⟨i0, hi0, hzz⟩ := Option.map_eq_some_iff.1 byteInfo
  simp only [Prod.mk.injEq] at hzz
  obtain ⟨hz0, hz1, hz2⟩ := hzz
  have hnews : ∀ j u, ([.int .u8 (y.toNat : Int)] : List Value)[j]? = some u → w.cell? ((⟨X, 0, none⟩ : Addr).add j) = some u := World.news_of_block (cs := #[.int .u8 (y.toNat : Int)]) (t := 5) (fr := (0, 0)) hX
  have hone : ∀ u ∈ ([.int .u8 (y.toNat : Int)] : List Value), u.oneCell' = true := by simp [Value.oneCell']
  have hlen : (l ++ [y]).length = l.length + 1 := by simp
  have hget : ∀ j, j < l.length + 1 → (nums (l ++ [y])).getD j 0 = if j < l.length then (nums l).getD j 0 else (y.toNat : Int) := fun j hj => by
    unfold nums
    rw [List.map_append]
    simp only [List.getD_eq_getElem?_getD]
    by_cases q : j < l.length
    · rw [if_pos q, List.getElem?_append_left (by simpa using q)]
    · rw [if_neg q, List.getElem?_append_right (by simp; omega)]
      have : j - (List.map (fun b : UInt8 => (b.toNat : Int)) l).length = 0 := by simp; omega
      rw [this]
      rfl
  obtain ⟨g, cap, cur, fz, rfl, hb, hh, hf, h1, h2, h3, h4⟩ := h
  by_cases hroom : l.length + 1 ≤ cap
  · have hr := fun ty => run_append_room_cells (P := Tryz.prog) w 62 ty 5 i0 Tryz.underlying62 hi0 g 0 l.length cap ⟨X, 0, none⟩ 1 1 [.int .u8 (y.toNat : Int)] (by rw [hz1]; rfl) hnews hone hroom
      (fun j hj => by
        have : j = 0 := by simp at hj; omega
        subst this
        rw [cell_of_heap hh, hz1]
        simp
        omega) (fun j hj => by
        have : j = 0 := by simp at hj; omega
        subst this
        rw [hz1]
        exact frozen_no hh (by simp; omega))
    rw [hz1] at hr
    have hset : w.setCells g (0 + l.length * 1) [.int .u8 (y.toNat : Int)] = w.setCell ⟨g, l.length, none⟩ (.int .u8 (y.toNat : Int)) := by
      simp [World.setCells]
    rw [hset] at hr
    refine ⟨g, cap, _, hr, ⟨g, cap, cur.setIfInBounds l.length (.int .u8 (y.toNat : Int)), fz, by rw [hlen], hb, ?_, hf, by rw [hlen]; exact hroom, h2, by simpa using h3, fun j hj => ?_⟩, (Upd.setCell g _ w _).below hb hB⟩
    · rw [setCell_eq_setRow w g _ _ _ _ _ hh, setRow_heap w g _ _ _ _ hh]
    · rw [hlen] at hj
      rw [Array.getElem?_setIfInBounds, hget j hj]
      by_cases q : j < l.length
      · rw [if_neg (by omega), if_pos q]
        exact h4 j q
      · obtain rfl : j = l.length := by omega
        rw [if_pos rfl, if_pos (by omega), if_neg q]
  · obtain ⟨v', w', hr, hown, hgrow⟩ := run_append_arg_grows (P := Tryz.prog) w 62 0 5 i0 _ 1 1 Tryz.underlying62 hi0 hz0 hz1 hz2 rfl (by omega) ⟨g, 0, none⟩ l.length cap ((nums l).map (Value.int .u8)) (by rw [List.length_map, nums_len, Nat.mul_one])
      (fun j u hu => by
        rw [List.getElem?_map, Option.map_eq_some_iff] at hu
        obtain ⟨z, hy, rfl⟩ := hu
        have hj : j < l.length := by have := (List.getElem?_eq_some_iff.1 hy).1; rwa [nums_len] at this
        rw [add0, Nat.zero_add, cell_of_heap hh, h4 j hj, List.getD_eq_getElem?_getD, hy]
        rfl) ⟨X, 0, none⟩ 1 1 [.int .u8 (y.toNat : Int)] rfl hnews (by omega) (by unfold maxLen; omega) (by omega)
    have hbl : Below w.heap.size w w' := ⟨hgrow.os, hgrow.tape, hgrow.output, hgrow.size, fun k hk => hgrow.block k hk (by simp)⟩
    rcases hown.2 with ⟨_, e⟩ | ⟨g', cap', cur', e, hb', hh', q1, q2, q3, q4⟩
    · omega
    · subst e
      refine ⟨g', cap', w', fun ty => hr, ⟨g', cap', cur', (0, 0), by rw [hlen], Nat.le_trans hB hb', hh', Or.inl (Nat.le_refl _), by rw [hlen]; exact q1, q2, by rw [q3]; omega, fun j hj => ?_⟩, hbl.mono hB⟩
      rw [hlen] at hj
      rw [hget j hj]
      have h8 : ((nums l).map (Value.int .u8) ++ [.int .u8 (y.toNat : Int)])[j]? = some (.int .u8 (if j < l.length then (nums l).getD j 0 else (y.toNat : Int))) := by
        by_cases q : j < l.length
        · rw [if_pos q, List.getElem?_append_left (by rw [List.length_map, nums_len]; exact q), List.getElem?_map, List.getElem?_eq_getElem (by rw [nums_len]; exact q), List.getD_eq_getElem?_getD, List.getElem?_eq_getElem (by rw [nums_len]; exact q)]
          rfl
        · rw [if_neg q, List.getElem?_append_right (by rw [List.length_map, nums_len]; omega)]
          have : j - ((nums l).map (Value.int .u8)).length = 0 := by rw [List.length_map, nums_len]; omega
          rw [this]
          rfl
      rw [← q4, Nat.mul_one, List.getElem?_take_of_lt hj] at h8
      simpa using h8
end
/-- An append whose run is known, where its guard says yes. -/
theorem wpList_ap_eqW {P : Program} {w w' : World} {ops : Array Oper} {rest : List Oper} {o : Oper} {a : Act} {Q : Exit → Act → World → Prop} (hwn : Region.wanted o (yielded ops a.tmps) = true) (s x : Operand) (t : TypeId)
    (ho : o.op = .call { callee := .builtin .append, args := #[s, x], argTypes := #[t, t] }) (sv xv r : Value) (hs : a.eval s = sv) (hx : a.eval x = xv) (hr : ∀ ty, (Builtin.append_ #[t, t] ty #[sv, xv]).run P w = .ok r w')
    (h : wpList P ops Q rest (a.put o.dst r) w') : wpList P ops Q (o :: rest) a w :=
  wpList_step fun K hK => by
    rw [if_pos hwn]
    unfold Oper.wp
    simp [execOp, ho, resolve, invoke, builtin, hs, hx, hr, Result.andThen]
    exact hK _ _ h
theorem wrA_nat (F : FS) {k : Nat} (hk : k < 32) (o : Int) (l : List UInt8) : wrA F (k : Int) o l = wrR F k o l ∧ wrB F (k : Int) o l = wrF F k o l := by
  unfold wrA wrB
  rw [isI_nat hk, if_pos rfl, if_pos rfl, Int.toNat_natCast]
  exact ⟨rfl, rfl⟩
theorem rsA_nat (F : FS) {k : Nat} (hk : k < 32) (s : Int) : rsA F (k : Int) s = rsR F k s ∧ rsB F (k : Int) s = rsF F k s := by
  unfold rsA rsB
  rw [isI_nat hk, if_pos rfl, if_pos rfl, Int.toNat_natCast]
  exact ⟨rfl, rfl⟩
def slenV : Value → Nat
  | .slice _ n _ => n
  | _ => 0
section
variable {w w' : World} {bx gx m : Nat} {F : FS}
set_option maxHeartbeats 4000000 in
set_option maxRecDepth 100000 in
theorem radd_at (h : Es w bx gx F m) (hA : AllD F) (hm : m ≤ 700000000000) (hF : FInv F) (h64 : F.n ≤ 64) (i : Int) (s : List UInt8) (hs : s.length ≤ 9223372036854775807) (to : Int) :
    Calls Tryz.prog 17 #[ptr bx, .int .i64 i, tx s, .int .i64 to] w fun e w' => e = .returned (.int .i64 (adR F i s to)) ∧ Es w' bx gx (adF F i s to) (m + 12000) ∧ BG bx gx w w' := by
  have hD := rdir_at h (by omega) hF i
  have hL21 := dir_len hA i
  clear h
  cases hd : isD F i with
  | false =>
    rw [hd] at hD
    have HR : Hid (adR F i s to = 20 ∧ adF F i s to = F) := by
      have e1 : adR F i s to = 20 := by unfold adR; rw [hd]; rfl
      exact ⟨e1, by unfold adF; rw [e1]; rfl⟩
    clear hd hL21
    go_enter Tryz.func17, Tryz.ntmps17
    go_wp2_with fail
    refine hD.mono ?_
    rintro e w1 ⟨rfl, hf, hbg⟩
    have HQ : Hid (Es w1 bx gx F (m + 12000) ∧ BG bx gx w w1) := ⟨hf.mono (by omega), hbg⟩
    clear hD hf hbg
    go_wp2
    go_ret
    exact ⟨by rw [HR.out.1]; rfl, by rw [HR.out.2]; exact HQ.out.1, HQ.out.2⟩
  | true =>
    rw [hd] at hD
    have HD : Hid (isD F i = true) := hd
    clear hd
    go_enter Tryz.func17, Tryz.ntmps17
    go_wp2_with fail
    refine hD.mono ?_
    rintro e w1 ⟨rfl, hf, hbg⟩
    have HQ : Hid (Es w1 bx gx F (m + 2000) ∧ BG bx gx w w1) := ⟨hf, hbg⟩
    have hN := rname_at s hs w1
    clear hD hf hbg
    by_cases hn : (isName s && isI to) = false
    · have HR : Hid (adR F i s to = 22 ∧ adF F i s to = F) := by
        have e1 : adR F i s to = 22 := by unfold adR; rw [HD.out, hn]; rfl
        exact ⟨e1, by unfold adF; rw [e1]; rfl⟩
      have hcs : isName s = false ∨ (isName s = true ∧ to < 0) ∨ (isName s = true ∧ ¬ to < 0 ∧ 32 ≤ to) := by
        cases hq : isName s with
        | false => exact Or.inl rfl
        | true =>
          rw [hq] at hn
          have : isI to = false := by simpa using hn
          unfold isI at this
          simp at this
          by_cases q : to < 0
          · exact Or.inr (Or.inl ⟨rfl, q⟩)
          · exact Or.inr (Or.inr ⟨rfl, q, by omega⟩)
      clear hn
      rcases hcs with q | ⟨q, q1⟩ | ⟨q, q1, q2⟩
      all_goals
        rw [q] at hN
        clear q
        go_wp2_with fail
        refine hN.mono ?_
        rintro x w2 ⟨rfl, hw⟩
        rw [hw]
        clear hw w2 hN
        go_wp2
        go_ret
        exact ⟨by rw [HR.out.1]; rfl, by rw [HR.out.2]; exact HQ.out.1.mono (by omega), HQ.out.2⟩
    · obtain ⟨hn1, hn2⟩ : isName s = true ∧ isI to = true := by simpa using hn
      obtain ⟨t, rfl, ht⟩ := isI_of hn2
      have HNm : Hid ((isName s && isI (t : Int)) = true) := (show (isName s && isI (t : Int)) = true by simpa using hn)
      rw [hn1] at hN
      have HOk : Hid (EntOk ⟨s, t⟩) := ent_ok hn1 ht
      have t0 : ¬ (t : Int) < 0 := by omega
      have t1 : ¬ (32 : Int) ≤ (t : Int) := by omega
      have hFd := rfind_at HQ.out.1 hA (by omega) hF i s
      clear hn hn1 hn2
      go_wp2_with fail
      refine hN.mono ?_
      rintro x w2 ⟨rfl, hw⟩
      rw [hw]
      clear hw w2 hN
      by_cases hfd : 0 ≤ fdR F i s
      · have HR : Hid (adR F i s (t : Int) = 17 ∧ adF F i s (t : Int) = F) := by
          have e1 : adR F i s (t : Int) = 17 := by
            unfold adR
            rw [HD.out, HNm.out, if_neg (by simp), if_neg (by simp), if_pos hfd]
          exact ⟨e1, by unfold adF; rw [e1]; rfl⟩
        generalize fdR F i s = fd at *
        go_wp2_with fail
        refine hFd.mono ?_
        rintro x w3 ⟨rfl, hf3, hbg3⟩
        have HQ3 : Hid (Es w3 bx gx F (m + 12000) ∧ BG bx gx w w3) := ⟨hf3.mono (by omega), HQ.out.2.trans hbg3⟩
        clear hFd hf3 hbg3 HQ
        go_wp2
        go_ret
        exact ⟨by rw [HR.out.1]; rfl, by rw [HR.out.2]; exact HQ3.out.1, HQ3.out.2⟩
      · have HFd : Hid (¬ 0 ≤ fdR F i s) := hfd
        obtain ⟨l, hl⟩ : ∃ l, l = dirL F i := ⟨_, rfl⟩
        have HL : Hid (l = dirL F i) := hl
        rw [← hl] at hL21
        have hfd' : ¬ 0 ≤ fdR F i s := hfd
        obtain ⟨fd, hfdq⟩ : ∃ fd, fd = fdR F i s := ⟨_, rfl⟩
        rw [← hfdq] at hFd hfd'
        clear hfd hl hfdq
        go_wp2_with fail
        refine hFd.mono ?_
        rintro x w3 ⟨rfl, hf3, hbg3⟩
        have HQ3 : Hid (Es w3 bx gx F (m + 6000) ∧ BG bx gx w w3) := ⟨hf3, HQ.out.2.trans hbg3⟩
        have hLs := rlist_at HQ3.out.1 hA (by omega) hF i
        rw [← HL.out] at hLs
        clear hFd hf3 hbg3 HQ
        go_wp2_with fail
        refine hLs.mono ?_
        rintro x w4 ⟨v, u, rfl, hTs, hNs, hf4, hbg4⟩
        obtain ⟨va, vc, rfl, -⟩ := hTs.form
        obtain ⟨ua, uc, rfl, -⟩ := hNs.form
        have HQ4 : Hid (Es w4 bx gx F (m + 10000) ∧ BG bx gx w w4) := ⟨hf4, HQ3.out.2.trans hbg4⟩
        have hl1 : (l.map Ent.name).length = l.length := List.length_map _
        have hl2 : (l.map Ent.to).length = l.length := List.length_map _
        rw [hl1, hl2]
        obtain ⟨vb, w5, hcv, hBs, hb5⟩ := Bs.of_text w4 s hs
        have HB5 : Hid (Bs w5 w4.heap.size vb (s ++ List.replicate 0 (0 : UInt8)) ∧ Below w4.heap.size w4 w5) := ⟨by rw [List.replicate_zero, List.append_nil]; exact hBs, hb5⟩
        clear hLs hTs hNs hf4 hbg4 hl1 hl2 hBs hb5 HQ3
        have hsl := HOk.out.max
        go_wp2
        go_loopw [11] (fun s11 wr => ∃ (q : Nat) (u : Value), u = s11 ∧ s.length + q ≤ 8 ∧ Hid (Bs wr w4.heap.size u (s ++ List.replicate q (0 : UInt8)) ∧ Below w4.heap.size w4 wr)) (fun s11 _ => 8 - slenV s11)
        case atStart => exact ⟨0, _, rfl, by omega, HB5⟩
        case round =>
          clear HB5 hcv
          obtain ⟨q, v', rfl, hq, HB⟩ := hrel
          have hle : (s ++ List.replicate q (0 : UInt8)).length = s.length + q := by simp
          obtain ⟨g, cp, rfl, hgc⟩ := HB.out.1.form
          rw [hle] at hgc HB ⊢
          by_cases hlt : s.length + q < 8
          · obtain ⟨n, hn⟩ : ∃ n, n = s.length + q := ⟨_, rfl⟩
            obtain ⟨W4, hW4⟩ : ∃ W, W = wr.alloc (.cells #[.int .u8 0] 5) := ⟨_, rfl⟩
            have hb4 : Below wr.heap.size wr W4 := by rw [hW4]; exact below_alloc _ _
            have hBsA : Bs wr w4.heap.size (.slice (some ⟨g, 0, none⟩) (s.length + q) cp) (s ++ List.replicate q 0) := HB.out.1
            obtain ⟨g', c', w', hr, hB', hbl'⟩ := (hBsA.below hb4).app wr.heap.size (by rw [hW4]; exact heap_alloc_new _ _) (by rw [hle]; omega) (Nat.le_trans HB.out.2.size hb4.size)
            rw [hle] at hr hB'
            have HN : Hid (Bs w' w4.heap.size (.slice (some ⟨g', 0, none⟩) (n + 1) c') (s ++ List.replicate (q + 1) 0) ∧ Below w4.heap.size w4 w') := by
              refine ⟨?_, (HB.out.2.trans (hb4.mono HB.out.2.size)).trans hbl'⟩
              rw [List.replicate_succ', ← List.append_assoc, hn]
              exact hB'
            rw [← hn] at hr ⊢
            have HR : Hid _ := hr
            have HW4 : Hid (W4 = wr.alloc (.cells #[.int .u8 0] 5)) := hW4
            have hn8 : (n : Int) < 8 := by omega
            have Hn : Hid (n = s.length + q) := hn
            clear hr hB' hbl' hb4 hW4 hBsA hle HB hn hlt
            go_wp2_with (first | (at_builtin; rw [← HW4.out]; refine wpList_ap_eqW (by rfl) _ _ _ rfl _ _ _ rfl rfl HR.out ?_) | go_in)
            go_roundw
            case rel => exact ⟨q + 1, _, rfl, by have := Hn.out; omega, HN⟩
            case measure => show 8 - (n + 1) < 8 - n; omega
          · have h8 : s.length + q = 8 := by omega
            rw [h8] at hgc HB ⊢
            have hz : s ++ List.replicate q (0 : UInt8) = s ++ List.replicate (8 - s.length) 0 := by rw [show 8 - s.length = q by omega]
            have h8' : (s ++ List.replicate q (0 : UInt8)).length = 8 := by rw [hle]; exact h8
            obtain ⟨Z, hZ⟩ : ∃ Z, Z = s ++ List.replicate q (0 : UInt8) := ⟨_, rfl⟩
            have HZ : Hid (Z ++ [UInt8.ofNat t] = encE ⟨s, t⟩) := by rw [hZ, hz]; rfl
            rw [← hZ] at HB h8'
            clear hlt hz hZ hle
            by_cases h21 : 21 ≤ l.length
            · have HRr : Hid (adR F i s (t : Int) = 28 ∧ adF F i s (t : Int) = F) := by
                have e1 : adR F i s (t : Int) = 28 := by
                  unfold adR
                  rw [HD.out, HNm.out, if_neg (by simp), if_neg (by simp), if_neg (show ¬ 0 ≤ fdR F _ s by have := HFd.out; omega), if_pos (by rw [← HL.out]; exact h21)]
                exact ⟨e1, by unfold adF; rw [e1]; rfl⟩
              have g21 : (21 : Int) ≤ (l.length : Int) := by omega
              have HQw : Hid (Es wr bx gx F (m + 12000) ∧ BG bx gx w wr) := ⟨(HQ4.out.1.below HB.out.2).mono (by omega), HQ4.out.2.trans (bg_of HB.out.2)⟩
              clear HB h21
              go_wp2
              go_ret
              exact ⟨by rw [HRr.out.1]; rfl, by rw [HRr.out.2]; exact HQw.out.1, HQw.out.2⟩
            · have g21 : ¬ (21 : Int) ≤ (l.length : Int) := by omega
              have g21d : decide ((21 : Int) ≤ (l.length : Int)) = false := decide_eq_false g21
              obtain ⟨N, hN⟩ : ∃ N : Nat, N = 9 * l.length := ⟨_, rfl⟩
              have hw9 : IntKind.i64.wrap (9 * (l.length : Int)) = (N : Int) := by simp [IntKind.wrap, IntKind.bits, IntKind.signed]; omega
              have hw8 : IntKind.u8.wrap (t : Int) = (t : Int) := by simp [IntKind.wrap, IntKind.bits, IntKind.signed]; omega
              have htb : ((UInt8.ofNat t).toNat : Int) = (t : Int) := by simp; omega
              obtain ⟨W6, hW6⟩ : ∃ W, W = wr.alloc (.cells #[.int .u8 (t : Int)] 5) := ⟨_, rfl⟩
              have hb6 : Below wr.heap.size wr W6 := by rw [hW6]; exact below_alloc _ _
              have hBsA : Bs wr w4.heap.size (.slice (some ⟨g, 0, none⟩) Z.length cp) Z := by rw [h8']; exact HB.out.1
              obtain ⟨g', c', w7, hr, hB', hbl'⟩ := (hBsA.below hb6).push (UInt8.ofNat t) wr.heap.size (by rw [htb, hW6]; exact heap_alloc_new _ _) (by omega) (Nat.le_trans HB.out.2.size hb6.size)
              have hstr := hB'.string
              rw [HZ.out] at hstr
              rw [h8'] at hr hB' hstr
              have hbw7 : Below w4.heap.size w4 w7 := (HB.out.2.trans (hb6.mono HB.out.2.size)).trans hbl'
              have HQ7 : Hid (Es w7 bx gx F (m + 10000) ∧ BG bx gx w w7) := ⟨HQ4.out.1.below hbw7, HQ4.out.2.trans (bg_of hbw7)⟩
              obtain ⟨k, rfl, hk, hkk⟩ := isD_nat HD.out
              have hu := dir_used hF hk hkk
              obtain ⟨E, hE⟩ : ∃ E, E = encE ⟨s, t⟩ := ⟨_, rfl⟩
              have hEl : E.length = 9 := by rw [hE]; exact encE_len HOk.out
              have hW := r_write HQ7.out.1 (by omega) hF h64 (k : Int) (N : Int) (by omega) E (by omega) (fun _ => by simpa using hu)
              rw [(wrA_nat F hk (N : Int) E).1, (wrA_nat F hk (N : Int) E).2] at hW
              have hwc : wrR F k (N : Int) E = 0 ∨ ((wrR F k (N : Int) E == 0) = false ∧ wrR F k (N : Int) E ≠ 0) := by
                by_cases q : wrR F k (N : Int) E = 0
                · exact Or.inl q
                · exact Or.inr ⟨by simpa using q, q⟩
              have HAd : Hid (adR F (k : Int) s (t : Int) = (if wrR F k (N : Int) E = 0 then 0 else 28) ∧ adF F (k : Int) s (t : Int) = (if (if wrR F k (N : Int) E = 0 then (0 : Int) else 28) = 0 then wrF F k (N : Int) E else F)) := by
                have e1 : adR F (k : Int) s (t : Int) = (if wrR F k (N : Int) E = 0 then 0 else 28) := by
                  unfold adR
                  rw [HD.out, HNm.out, if_neg (by simp), if_neg (by simp), if_neg (show ¬ 0 ≤ fdR F _ s by have := HFd.out; omega), if_neg (by rw [← HL.out]; exact h21), adB_enc, ← HL.out, hE, hN, Int.toNat_natCast]
                exact ⟨e1, by unfold adF; rw [e1, adB_enc, ← HL.out, hE, hN, Int.toNat_natCast]⟩
              have HWf : Hid (wrR F k (N : Int) E ≠ 0 → wrF F k (N : Int) E = F) := wr_kept F k _ E
              rw [← hE] at hstr
              have HR : Hid _ := hr
              have HW6 : Hid (W6 = wr.alloc (.cells #[.int .u8 (t : Int)] 5)) := hW6
              clear hr hB' hbl' hb6 hW6 hBsA HB hN hbw7 hE HZ hkk htb h8'
              generalize wrR F k (N : Int) E = wr0 at *
              generalize wrF F k (N : Int) E = F1 at *
              go_wp2_with (first | (at_builtin; rw [← HW6.out]; refine wpList_ap_eqW (by rfl) _ _ _ rfl _ _ _ rfl rfl HR.out ?_) | fail)
              refine hW.mono ?_
              rintro x w8 ⟨rfl, hf8, hbg8⟩
              have HQ8 : Hid (Es w8 bx gx F1 (m + 12000) ∧ BG bx gx w w8) := ⟨hf8.mono (by omega), HQ7.out.2.trans hbg8⟩
              clear hW hf8 hbg8 HQ7 hstr
              rcases hwc with rfl | ⟨q1, q2⟩
              · go_wp2
                go_ret
                exact ⟨by rw [HAd.out.1]; rfl, by rw [HAd.out.2]; exact HQ8.out.1, HQ8.out.2⟩
              · have HF1 : Hid (F1 = F) := HWf.out q2
                have HAq : Hid (adR F (k : Int) s (t : Int) = 28 ∧ adF F (k : Int) s (t : Int) = F) := by
                  have := HAd.out
                  rw [if_neg q2, if_neg (by omega)] at this
                  exact this
                clear HAd
                go_wp2
                go_ret
                exact ⟨by rw [HAq.out.1]; rfl, by rw [HAq.out.2, ← HF1.out]; exact HQ8.out.1, HQ8.out.2⟩
end
end Go.Proofs.YtcaofdbcgdgbbaaGreatDoor
