/- The document's answer on directories (janusref16), over a file system: dir, List, Find. -/
import Derived.Test.YtcaofdbcgdgbbaaGreatDoorDtK
import Derived.Test.YtcaofdbcgdgbbaaGreatDoorRtA
import Derived.Test.YtcaofdbcgdgbbaaGreatDoorPyIJ
namespace Go.Proofs.YtcaofdbcgdgbbaaGreatDoor
open Go.RowKit Go.Lib
set_option linter.unusedVariables false

section
variable {w w' : World} {bx gx m : Nat} {F : FS}
set_option maxHeartbeats 2000000 in
set_option maxRecDepth 100000 in
theorem rdir_at (h : Es w bx gx F m) (hm : m ≤ 800000000000) (hF : FInv F) (i : Int) :
    Calls Tryz.prog 52 #[ptr bx, .int .i64 i] w fun e w' => e = .returned (.bool (isD F i)) ∧ Es w' bx gx F (m + 2000) ∧ BG bx gx w w' := by
  have hC := r_get h (by omega) hF i
  obtain ⟨R, hR⟩ : ∃ R, R = irow (gtX F i) := ⟨_, rfl⟩
  have HRl : Hid ((gtX F i).length = 9) := gtX_len hF i
  have HRs : Hid (R.size = 9) := by rw [hR]; show _ = _; rw [irow_size]; exact HRl.out
  have HRo : Hid (R.all (·.oneCell') = true) := by rw [hR]; exact irow_one _
  have HRq : Hid (R = irow (gtX F i)) := hR
  rw [← hR] at hC
  have hz := lit_zi
  clear hR h
  have key : ∀ (er : Int) (b : Bool), gtR i = er → isD F i = b → ((er = 101 ∧ b = false) ∨ (er = 0 ∧ b = decide ((gtX F i).getD 0 0 = 2))) → Calls Tryz.prog 52 #[ptr bx, .int .i64 i] w fun e w' => e = .returned (.bool (isD F i)) ∧ Es w' bx gx F (m + 2000) ∧ BG bx gx w w' := fun er b h1 h2 h3 => by
    rw [h1] at hC
    rw [h2]
    obtain ⟨kd, hkd⟩ : ∃ kd, kd = (gtX F i).getD 0 0 := ⟨_, rfl⟩
    have HK : Hid (kd = (gtX F i).getD 0 0) := hkd
    rw [← hkd] at h3
    clear hkd h1 h2
    have h3' : (er = 101 ∧ b = false) ∨ (er = 0 ∧ kd = 2 ∧ b = true) ∨ (er = 0 ∧ (kd == 2) = false ∧ b = false) := by
      rcases h3 with q | ⟨q1, q2⟩
      · exact Or.inl q
      · by_cases e : kd = 2
        · exact Or.inr (Or.inl ⟨q1, e, by rw [q2, decide_eq_true e]⟩)
        · exact Or.inr (Or.inr ⟨q1, by simpa using e, by rw [q2, decide_eq_false e]⟩)
    clear h3
    go_enter Tryz.func52, Tryz.ntmps52
    go_wp2_with fail
    refine hC.mono ?_
    rintro e w1 ⟨rfl, hf, hbg⟩
    obtain ⟨W2, hW2⟩ : ∃ W, W = w1.alloc (.cells R 88) := ⟨_, rfl⟩
    obtain ⟨p, hp⟩ : ∃ p, p = w1.heap.size := ⟨_, rfl⟩
    have hb2 : Below w1.heap.size w1 W2 := by rw [hW2]; exact below_alloc _ _
    have HQ : Hid (Es W2 bx gx F (m + 2000) ∧ BG bx gx w W2) := ⟨hf.below hb2, hbg.trans (bg_of hb2)⟩
    have c0 : W2.cell? ⟨p, 0, none⟩ = some (.int .i64 kd) := by
      have : W2.heap[p]? = some (.cells R 88) := by rw [hp, hW2]; exact heap_alloc_new _ _
      rw [cell_of_heap this, HRq.out, irow_get _ _ (by rw [HRl.out]; omega), HK.out]
    have HW2 : Hid (W2 = w1.alloc (.cells R 88)) := hW2
    have Hp : Hid (p = w1.heap.size) := hp
    clear hC hf hbg hW2 hp hb2
    rcases h3' with ⟨rfl, rfl⟩ | ⟨rfl, rfl, rfl⟩ | ⟨rfl, hk, rfl⟩
    all_goals
      go_wp2_with (first
        | (refine wpList_store_row rfl 88 _ _ rfl w1.heap.size R rfl rfl 88 zi (heap_alloc_new _ _) (by rw [HRs.out]; exact inoSize) (by rw [HRs.out]; rfl) HRo.out ?_; rw [setRow_alloc_new, ← HW2.out, ← Hp.out])
        | fail)
      go_ret
      exact ⟨rfl, HQ.out⟩
  cases hi : isI i with
  | false =>
    refine key 101 false ?_ ?_ (Or.inl ⟨rfl, rfl⟩)
    · unfold gtR; rw [hi]; rfl
    · unfold isD; rw [hi]; rfl
  | true =>
    refine key 0 (isD F i) ?_ rfl (Or.inr ⟨rfl, ?_⟩)
    · unfold gtR; rw [hi]; rfl
    · unfold isD gtX
      rw [hi]
      rfl
/-- The bytes of a name, and what stands behind them. -/
theorem Head.byte {D D' : List UInt8} {e : Ent} (h : Head D D' e) (he : EntOk e) {k : Nat} (hk : k < e.name.length) : ((nums D).getD k 0 == 0) = false ∧ (nums D).getD k 0 ≠ 0 := by
  have h8 := he.max
  have hl := h.len
  have hb : D[k]'(by omega) = e.name[k] := by
    have a1 : (D.take 8)[k]? = e.name[k]? := by rw [h.name, List.getElem?_append_left hk]
    rw [List.getElem?_take_of_lt (by omega), List.getElem?_eq_getElem (by omega), List.getElem?_eq_getElem hk] at a1
    exact Option.some.inj a1
  have hn : (nums D).getD k 0 ≠ 0 := by
    rw [nums_at D k (by omega), hb]
    intro q
    exact he.nz _ (List.getElem_mem hk) (by apply UInt8.toNat_inj.1; simp; omega)
  exact ⟨by simpa using hn, hn⟩
theorem Head.zero {D D' : List UInt8} {e : Ent} (h : Head D D' e) (he : EntOk e) (h8 : e.name.length < 8) : (nums D).getD e.name.length 0 = 0 := by
  have hl := h.len
  rw [nums_at D _ (by omega)]
  have a1 : (D.take 8)[e.name.length]? = some 0 := by rw [h.name, List.getElem?_append_right (Nat.le_refl _), List.getElem?_replicate, if_pos (by omega)]
  rw [List.getElem?_take_of_lt (by omega), List.getElem?_eq_getElem (by omega)] at a1
  rw [Option.some.inj a1]
  rfl
theorem Head.cut {D D' : List UInt8} {e : Ent} (h : Head D D' e) (he : EntOk e) : D.take e.name.length = e.name := by
  have h8 := he.max
  have a1 : D.take e.name.length = (D.take 8).take e.name.length := by rw [List.take_take, Nat.min_eq_left h8]
  rw [a1, h.name, List.take_left]
set_option maxHeartbeats 4000000 in
set_option maxRecDepth 100000 in
theorem rlist_at (h : Es w bx gx F m) (hA : AllD F) (hm : m ≤ 800000000000) (hF : FInv F) (i : Int) :
    Calls Tryz.prog 27 #[ptr bx, .int .i64 i] w fun e w' => ∃ v u, e = .returned (.tuple #[v, u]) ∧ Ts w' w.heap.size v ((dirL F i).map Ent.name) ∧ Ns w' w.heap.size u ((dirL F i).map Ent.to) ∧ Es w' bx gx F (m + 4000) ∧ BG bx gx w w' := by
  have hD := rdir_at h hm hF i
  have hL := dir_len hA i
  cases hd : isD F i with
  | false =>
    rw [hd] at hD
    have HR : Hid (dirL F i = []) := by show _ = _; unfold dirL; rw [hd]; rfl
    clear h hd hL
    go_enter Tryz.func27, Tryz.ntmps27
    go_wp2_with fail
    refine hD.mono ?_
    rintro e w1 ⟨rfl, hf, hbg⟩
    have HQ : Hid (Es w1 bx gx F (m + 4000) ∧ BG bx gx w w1) := ⟨hf.mono (by omega), hbg⟩
    clear hD hf hbg
    go_wp2
    go_ret2
    exact ⟨_, _, rfl, by rw [HR.out]; exact Ts.nil _ _, by rw [HR.out]; exact Ns.nil _ _, HQ.out⟩
  | true =>
    rw [hd] at hD
    obtain ⟨k, rfl, hk, hkk⟩ := isD_nat hd
    obtain ⟨l, hl⟩ := hA k hk hkk
    obtain ⟨ht1, ht2⟩ := dir_text hF hk hl
    have HR : Hid (dirL F (k : Int) = l) := hl.list hk
    rw [hl.list hk] at hL
    have HO : Hid (∀ e ∈ l, EntOk e) := hl.ok
    obtain ⟨i0, hi0, hzz⟩ := Option.map_eq_some_iff.1 txtInfo
    simp only [Prod.mk.injEq] at hzz
    obtain ⟨hz0, hz1, hz2⟩ := hzz
    obtain ⟨j0, hj0, hyy⟩ := Option.map_eq_some_iff.1 intInfo
    simp only [Prod.mk.injEq] at hyy
    obtain ⟨hy0, hy1, hy2⟩ := hyy
    clear h hd hl
    go_enter Tryz.func27, Tryz.ntmps27
    go_wp2_with fail
    refine hD.mono ?_
    rintro e w1 ⟨rfl, hf, hbg⟩
    have hRd := r_read hf (by omega) hF (k : Int) 0 192 (by omega) (by omega)
    rw [ht1, ht2] at hRd
    have HB1 : Hid (BG bx gx w w1) := hbg
    clear hD hf hbg ht1 ht2
    obtain ⟨D0, hD0⟩ : ∃ D, D = encsE l := ⟨_, rfl⟩
    have HD0 : Hid (D0 = encsE (l.drop 0)) := hD0
    rw [← hD0] at hRd
    clear hD0
    go_wp2_with fail
    refine hRd.mono ?_
    rintro e w2 ⟨rfl, hf, hbg⟩
    have HQ : Hid (Es w2 bx gx F (m + 4000) ∧ BG bx gx w w2) := ⟨hf.mono (by omega), HB1.out.trans hbg⟩
    clear hRd hf hbg HB1
    go_wp2
    go_loopw [6, 8, 9, 10] (fun s6 s8 s9 s10 wr => ∃ (j : Nat) (D : List UInt8) (v u u10 : Value), s6 = tx D ∧ v = s8 ∧ u = s9 ∧ u10 = s10 ∧ j ≤ l.length ∧ Hid (D = encsE (l.drop j)) ∧ Hid (D.length = 9 * (l.length - j)) ∧ Hid (OwT wr w2.heap.size v ((l.take j).map Ent.name) ∧ OwN wr w2.heap.size u ((l.take j).map Ent.to) ∧ Below w2.heap.size w2 wr)) (fun s6 _ _ _ _ => (match s6 with | .string b => b.size | _ => 0))
    case atStart =>
      refine ⟨0, D0, _, _, _, rfl, rfl, rfl, rfl, by omega, HD0, ?_, World.ownsRow_nil _ _ _ _, World.ownsRow_nil _ _ _ _, Below.refl _ _⟩
      show _ = _
      rw [HD0.out, encsE_len (fun e he => HO.out e (List.mem_of_mem_drop he)), List.length_drop]
    case round =>
      obtain ⟨j, D, v, u, u10, rfl, rfl, rfl, rfl, hj, HD, HDl, HS⟩ := hrel
      clear HD0
      by_cases hlt : j < l.length
      · obtain ⟨e, he⟩ : ∃ e, l[j]? = some e := ⟨l[j], List.getElem?_eq_getElem hlt⟩
        have hH := head_of HO.out he
        rw [← HD.out] at hH
        have hok := HO.out e (List.mem_of_getElem? he)
        obtain ⟨D', hD'⟩ : ∃ D', D' = encsE (l.drop (j + 1)) := ⟨_, rfl⟩
        rw [← hD'] at hH
        have HD' : Hid (D' = encsE (l.drop (j + 1))) := hD'
        have HDl' : Hid (D'.length = 9 * (l.length - (j + 1))) := by
          show _ = _
          rw [hD', encsE_len (fun e he => HO.out e (List.mem_of_mem_drop he)), List.length_drop]
        have HH : Hid (Head D D' e ∧ EntOk e) := ⟨hH, hok⟩
        have hlen : (9 : Int) ≤ (D.length : Int) := by have := hH.len; omega
        have HK : Hid (l.take (j + 1) = l.take j ++ [e]) := by show _ = _; rw [List.take_add_one, he]; rfl
        have HDd : Hid (D'.length + 9 = D.length) := by have := HDl.out; have := HDl'.out; show _ = _; omega
        have hl1 : ((l.take j).map Ent.name).length = j := by rw [List.length_map, List.length_take]; omega
        have hl2 : ((l.take j).map Ent.to).length = j := by rw [List.length_map, List.length_take]; omega
        obtain ⟨N1, hN1⟩ : ∃ N, N = (l.take j).map Ent.name := ⟨_, rfl⟩
        obtain ⟨N2, hN2⟩ : ∃ N, N = (l.take j).map Ent.to := ⟨_, rfl⟩
        rw [← hN1, ← hN2] at HS
        rw [← hN1] at hl1
        rw [← hN2] at hl2
        have HN : Hid ((l.take (j + 1)).map Ent.name = N1 ++ [e.name] ∧ (l.take (j + 1)).map Ent.to = N2 ++ [e.to]) := by
          rw [HK.out, hN1, hN2, List.map_append, List.map_append]
          exact ⟨rfl, rfl⟩
        have H12 : Hid (N1.length = j ∧ N2.length = j) := ⟨hl1, hl2⟩
        clear hH he hD' hok hN1 hN2 hl1 hl2 HK
        go_wp2
        go_loopw [10] (fun s10 wq => ∃ (k : Nat), s10 = .int .i64 k ∧ k ≤ e.name.length ∧ wq = wr) (fun s10 _ => e.name.length - (RowKit.intOf s10).toNat)
        case atStart => exact ⟨0, rfl, by omega, rfl⟩
        case round =>
          obtain ⟨n, rfl, hn, rfl⟩ := hrel
          have hmax := HH.out.2.max
          by_cases hnl : n < e.name.length
          · obtain ⟨q1, q2⟩ := HH.out.1.byte HH.out.2 hnl
            have hix := tx_index D n (by have := HH.out.1.len; omega)
            have g8 : (n : Int) < 8 := by omega
            generalize (nums D).getD n 0 = x at *
            go_wp2
            go_roundw
            case rel => exact ⟨n + 1, by go_num, by omega, by first | rfl | trivial⟩
            case measure => simp [RowKit.intOf]; omega
          · have hne : n = e.name.length := by omega
            subst hne
            have hcs : (e.name.length < 8 ∧ ∀ W, (Instr.index 9 (tx D) (.int .i64 (e.name.length : Int))).run Tryz.prog W = .ok (.int .u8 0) W) ∨ ¬ e.name.length < 8 := by
              by_cases q : e.name.length < 8
              · refine Or.inl ⟨q, fun W => ?_⟩
                have := tx_index D e.name.length (by have := HH.out.1.len; omega) W
                rw [HH.out.1.zero HH.out.2 q] at this
                exact this
              · exact Or.inr q
            have hcN := tx_to D e.name.length (by have := HH.out.1.len; omega)
            rw [HH.out.1.cut HH.out.2] at hcN
            have hc9 := tx_from D 9 HH.out.1.len
            rw [HH.out.1.rest] at hc9
            have hix8 := tx_index D 8 (by have := HH.out.1.len; omega)
            rw [HH.out.1.to] at hix8
            have hw8 : IntKind.i64.wrap (e.to : Int) = (e.to : Int) := by have := HH.out.2.to; simp [IntKind.wrap, IntKind.bits, IntKind.signed]; omega
            simp only [Int.cast_ofNat_Int] at hc9 hix8
            obtain ⟨nl, hnlq⟩ : ∃ nl, nl = e.name.length := ⟨_, rfl⟩
            rw [← hnlq] at hcs hcN ⊢
            have hnl8 : nl ≤ 8 := by rw [hnlq]; exact hmax
            clear hnlq hn hnl hmax
            have hcs2 : (((nl : Int) < 8) ∧ ∀ W, (Instr.index 9 (tx D) (.int .i64 (nl : Int))).run Tryz.prog W = .ok (.int .u8 0) W) ∨ ¬ (nl : Int) < 8 := by
              rcases hcs with ⟨q1, q2⟩ | q
              · exact Or.inl ⟨by omega, q2⟩
              · exact Or.inr (by omega)
            clear hcs
            rcases hcs2 with ⟨q1, q2⟩ | q
            all_goals
              go_wp2_with (at_builtin; refine wpList_append_own _ rfl _ _ 22 rfl w2.heap.size 9 i0 (.string ⟨#[]⟩) 1 16 Tryz.underlying22 hi0 hz0 hz1 hz2 rfl (by decide) _ _ _ rfl (HS.out.1.alloc _) ⟨wr.heap.size, 0, none⟩ 1 1 [tx e.name] rfl rfl ?c1 ?c2 ?c3 ?c4 ?c5 ?_)
              (try (case c1 => exact World.news_of_block (cs := #[tx e.name]) (t := 9) (fr := (0, 0)) (heap_alloc_new _ _)))
              (try (case c2 => first | rfl | (intro u hu; simp at hu; subst hu; rfl)))
              case c3 => have := H12.out; unfold maxLen; omega
              case c4 => have := H12.out; omega
              case c5 => have := HS.out.2.2.size; simp; omega
              intro v' w3 hown' hgrow _
              have HS3 : Hid (OwT w3 w2.heap.size v' (N1 ++ [e.name]) ∧ OwN w3 w2.heap.size u N2 ∧ Below w2.heap.size w2 w3) := by
                refine ⟨?_, ?_, ?_⟩
                · show w3.ownsRow _ _ _ _ (N1 ++ [e.name]).length _
                  rw [List.length_append, List.map_append]
                  exact hown'
                · exact World.ownsRow.kept (HS.out.2.1.alloc _) hgrow (own_apart HS.out.2.1 HS.out.1 (by decide))
                · exact (HS.out.2.2.trans ((below_alloc wr _).mono HS.out.2.2.size)).grown hgrow (by have := HS.out.2.2.size; simp; omega) (fun k hk => (HS.out.1.lt k hk).1)
              clear hown' hgrow HS
              go_wp2_with (at_builtin; refine wpList_append_own _ rfl _ _ 54 rfl w2.heap.size 3 j0 (.int .i64 0) 1 8 Tryz.underlying54 hj0 hy0 hy1 hy2 rfl (by decide) _ _ _ rfl (HS3.out.2.1.alloc _) ⟨w3.heap.size, 0, none⟩ 1 1 [niv e.to] rfl rfl ?d1 ?d2 ?d3 ?d4 ?d5 ?_)
              (try (case d1 => exact World.news_of_block (cs := #[niv e.to]) (t := 3) (fr := (0, 0)) (heap_alloc_new _ _)))
              (try (case d2 => first | rfl | (intro u hu; simp at hu; subst hu; rfl)))
              case d3 => have := H12.out; unfold maxLen; omega
              case d4 => have := H12.out; omega
              case d5 => have := HS3.out.2.2.size; simp; omega
              intro u' w4 hown' hgrow _
              have HS4 : Hid (OwT w4 w2.heap.size v' ((l.take (j + 1)).map Ent.name) ∧ OwN w4 w2.heap.size u' ((l.take (j + 1)).map Ent.to) ∧ Below w2.heap.size w2 w4) := by
                rw [HN.out.1, HN.out.2]
                refine ⟨?_, ?_, ?_⟩
                · exact World.ownsRow.kept (HS3.out.1.alloc _) hgrow (own_apart HS3.out.1 HS3.out.2.1 (by decide))
                · show w4.ownsRow _ _ _ _ (N2 ++ [e.to]).length _
                  rw [List.length_append, List.map_append]
                  exact hown'
                · exact (HS3.out.2.2.trans ((below_alloc w3 _).mono HS3.out.2.2.size)).grown hgrow (by have := HS3.out.2.2.size; simp; omega) (fun k hk => (HS3.out.2.1.lt k hk).1)
              clear hown' hgrow HS3
              go_wp2
              go_roundw
              case rel => exact ⟨j + 1, D', _, _, _, rfl, rfl, rfl, rfl, by omega, HD', HDl', HS4⟩
              case measure =>
                have := HDd.out
                show (ByteArray.mk D'.toArray).size < (ByteArray.mk D.toArray).size
                rw [bytes_size', bytes_size']
                omega
      · have hD0 : D = [] := List.length_eq_zero_iff.1 (by have := HDl.out; omega)
        subst hD0
        have hS := HS.out
        rw [List.take_of_length_le (by omega)] at hS
        have HSe : Hid (OwT wr w2.heap.size v (l.map Ent.name) ∧ OwN wr w2.heap.size u (l.map Ent.to) ∧ Below w2.heap.size w2 wr) := hS
        clear hS HS HD HDl
        go_wp2
        go_ret2
        rw [HR.out]
        exact ⟨_, _, rfl, (OwT.row HSe.out.1).mono HQ.out.2.size, (OwN.row HSe.out.2.1).mono HQ.out.2.size, HQ.out.1.below HSe.out.2.2, HQ.out.2.trans (bg_of HSe.out.2.2)⟩
end
end Go.Proofs.YtcaofdbcgdgbbaaGreatDoor
