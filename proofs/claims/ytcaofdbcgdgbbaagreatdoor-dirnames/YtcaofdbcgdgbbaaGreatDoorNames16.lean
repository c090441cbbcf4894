/- Proved: januslaw16.DirNames answers true for every two rows of texts (what was added is found, what was removed is not, and no name is there twice), and its arguments read behind the call as before, at the commit of this claim; where the listed variables of package unicode/utf8 are laid as the program's text lays them (the card ties that; the call reads none of them). -/
import Derived.Test.YtcaofdbcgdgbbaaGreatDoorDtP
import Derived.Test.YtcaofdbcgdgbbaaGreatDoorDtK
namespace Go.Proofs.YtcaofdbcgdgbbaaGreatDoor
open Go.ChangeShapes Go.WideShapes Go.ChangeAt Go.RowKit Go.Lib
set_option linter.unusedVariables false

theorem add_zero {F : FS} {l : List Ent} (h : FuAt F l) {s : List UInt8} {t : Int} (h0 : adR F 0 s t = 0) : isName s = true ∧ isI t = true ∧ findE l s = -1 ∧ l.length < 21 := by
  unfold adR at h0
  rw [h.isd, if_neg (by simp)] at h0
  cases hn : (isName s && isI t) with
  | false => rw [hn, if_pos rfl] at h0; omega
  | true =>
    rw [hn, if_neg (by simp), h.find, h.list] at h0
    simp only [Bool.and_eq_true] at hn
    by_cases hf : 0 ≤ findE l s
    · rw [if_pos hf] at h0; omega
    · rw [if_neg hf] at h0
      by_cases hm : 21 ≤ l.length
      · rw [if_pos hm] at h0; omega
      · refine ⟨hn.1, hn.2, ?_, by omega⟩
        unfold findE at hf ⊢
        split
        · rename_i q
          rw [if_pos q] at hf
          omega
        · rfl
theorem FuAt.cases {F : FS} {l : List Ent} (h : FuAt F l) (hF : FInv F) (hA : AllD F) (s : List UInt8) {t : Nat} (ht : t < 32) : (adR F 0 s (t : Int) = 0 ∧ isName s = true ∧ findE l s = -1 ∧ findE (l ++ [⟨s, t⟩]) s = (t : Int) ∧ FuAt (adF F 0 s (t : Int)) (l ++ [⟨s, t⟩])) ∨ (adR F 0 s (t : Int) ≠ 0 ∧ adF F 0 s (t : Int) = F) := by
  by_cases h0 : adR F 0 s (t : Int) = 0
  · obtain ⟨q1, q2, q3, q4⟩ := add_zero h h0
    exact Or.inl ⟨h0, q1, q3, find_add q3, (h.add hF hA q1 ht q3 q4).2⟩
  · exact Or.inr ⟨h0, by unfold adF; rw [if_neg h0]⟩
theorem OwT.keep {w w' : World} {base : Nat} {v : Value} {ts : List (List UInt8)} (h : OwT w base v ts) {P : Nat → Prop} (hu : UpdP P w w') (hp : ∀ k, P k → k < base) : OwT w' base v ts := by
  obtain ⟨h1, h2⟩ := h
  refine ⟨h1, ?_⟩
  rcases h2 with h2 | ⟨g, cap, cur, hv, hg, hh, r⟩
  · exact Or.inl h2
  · exact Or.inr ⟨g, cap, cur, hv, hg, (hu.block g (lt_of_heap hh) (fun k => by have := hp g k; omega)).trans hh, r⟩
/-- What Remove answers and leaves at the root. -/
theorem rem_cases {F : FS} {l : List Ent} (h : FuAt F l) (hF : FInv F) (hA : AllD F) (s : List UInt8) : ∃ (r : Int) (F2 : FS) (l2 : List Ent), rmR F 0 s = r ∧ rmF F 0 s = F2 ∧ FuAt F2 l2 ∧ l2.map Ent.name = (l.map Ent.name).filter (fun x => x != s) ∧ findE l2 s = -1 ∧ ((r = 0 ∧ ((l.map Ent.name).filter (fun x => x != s)).length < (l.map Ent.name).length) ∨ (r = 2 ∧ ¬ ((l.map Ent.name).filter (fun x => x != s)).length < (l.map Ent.name).length)) := by
  by_cases hp : placeE l s < l.length
  · obtain ⟨q1, q2⟩ := h.rem hF hA hp
    have hg := gone_names h.dir.nd hp
    refine ⟨0, _, _, q1, rfl, q2, hg, find_gone h.dir.nd hp, Or.inl ⟨rfl, ?_⟩⟩
    rw [← hg, List.length_map, List.length_map]
    have := gone_len hp
    omega
  · obtain ⟨q1, q2⟩ := h.norem hp
    have hg := none_names hp
    refine ⟨2, _, _, q1, q2, h, hg.symm, find_no_iff.2 hp, Or.inr ⟨rfl, ?_⟩⟩
    rw [hg]
    omega
set_option maxHeartbeats 8000000 in
set_option maxRecDepth 100000 in
theorem names_walk (a0 : Option Addr) (len0 cap0 : Nat) (a1 : Option Addr) (len1 cap1 : Nat) (w : World) (hlen0 : len0 ≤ 9223372036854775807) (hin0 : TxIn w a0 len0) (hlen1 : len1 ≤ 9223372036854775807) (hin1 : TxIn w a1 len1) :
    Calls Tryz.prog 5 #[.slice a0 len0 cap0, .slice a1 len1 cap1] w fun e w' => e = .returned (.bool true) ∧ Below w.heap.size w w' := by
  have HI0 : Hid (TxIn w a0 len0) := hin0
  have HI1 : Hid (TxIn w a1 len1) := hin1
  obtain ⟨i0, hi0, hzz⟩ := Option.map_eq_some_iff.1 txtInfo
  simp only [Prod.mk.injEq] at hzz
  obtain ⟨hz0, hz1, hz2⟩ := hzz
  have hP := on_pair 40 w (by omega) (by omega)
  clear hin0 hin1
  go_enter Tryz.func5, Tryz.ntmps5
  go_wp2_with fail
  refine hP.mono ?_
  rintro e w1 ⟨B, bx, rfl, G, hO⟩
  obtain ⟨base, hbase⟩ : ∃ b, b = w1.heap.size := ⟨_, rfl⟩
  have HLo : Hid (B < base ∧ G < base ∧ w.heap.size ≤ base) := by have := hO.fs.lt; have := hO.old.size; show _ ∧ _ ∧ _; rw [hbase]; omega
  have HBs : Hid (base ≤ w1.heap.size) := by show _ ≤ _; rw [hbase]; exact Nat.le_refl _
  have H1 : Hid (OnAt w w1 B G (F0 40) 2000 ∧ FuAt (F0 40) []) := ⟨hO, fu0⟩
  clear hP hO hbase
  go_wp2
  go_loopw [8, 9, 10, 11] (fun s8 s9 s10 s11 wr => ∃ (k : Nat) (v u10 u11 : Value) (F : FS) (l : List Ent), v = s8 ∧ s9 = .int .i64 k ∧ u10 = s10 ∧ u11 = s11 ∧ k ≤ len0 ∧ k ≤ 30 ∧ Hid (l.length ≤ k) ∧ Hid (OnAt w wr B G F (2000 + 14000 * k) ∧ FuAt F l) ∧ Hid (OwT wr base v (l.map Ent.name) ∧ base ≤ wr.heap.size)) (fun _ s9 _ _ _ => 30 - (RowKit.intOf s9).toNat)
  case atStart => exact ⟨0, _, _, _, _, [], rfl, rfl, rfl, rfl, by omega, by omega, Nat.le_refl _, H1, World.ownsRow_nil _ _ _ _, HBs.out⟩
  case round =>
    obtain ⟨k, v, u10, u11, F, l, rfl, rfl, rfl, rfl, hkl, hk30, HLk, HS, HV⟩ := hrel
    clear H1 HBs
    by_cases hlt : k < len0 ∧ k < 30
    · obtain ⟨hl1, hl2⟩ := hlt
      have g0 : decide ((k : Int) < (len0 : Int)) = true := decide_eq_true (by omega)
      have g1 : decide ((k : Int) < 30) = true := decide_eq_true (by omega)
      have g0' : (k : Int) < (len0 : Int) := by omega
      have g1' : (k : Int) < 30 := by omega
      obtain ⟨gb, off, t, rfl, ct0, htl⟩ := HI0.out k hl1
      have hlo : gb < w.heap.size := cell_lt ct0
      have Hct : Hid (∀ W, Below w.heap.size w W → W.cell? ⟨gb, off + k, none⟩ = some (tx t)) := fun W hb => (hb.cell (p := ⟨gb, off + k, none⟩) hlo).trans ct0
      have ct := Hct.out wr HS.out.1.old
      have hF1 := on_find HS.out.1 (by omega) 0 t
      rw [HS.out.2.find] at hF1
      have hcases := HS.out.2.cases HS.out.1.fs.inv HS.out.1.dir t (by omega : k < 32)
      obtain ⟨fd, hfd⟩ : ∃ fd, fd = findE l t := ⟨_, rfl⟩
      rw [← hfd] at hF1
      have Hfd : Hid (fd = findE l t) := hfd
      have HFu : Hid (FuAt F l) := HS.out.2
      clear ct0 hlo hfd HS
      go_wp2_with fail
      refine hF1.mono ?_
      rintro x w2 ⟨rfl, hO2, hu2⟩
      have HV2 : Hid (OwT w2 base v (l.map Ent.name) ∧ base ≤ w2.heap.size) := ⟨HV.out.1.keep hu2 (fun j hj => by have := HLo.out; rcases hj with e | e <;> omega), Nat.le_trans HV.out.2 hu2.size⟩
      have ct2 := Hct.out w2 hO2.old
      have hA := on_add hO2 (by omega) 0 t htl (k : Int)
      clear hF1 hO2 hu2 HV ct
      rcases hcases with ⟨q1, q2, q3, q4, q5⟩ | ⟨q1, q2⟩
      · rw [q1] at hA
        have hfd1 : fd = -1 := by rw [Hfd.out]; exact q3
        subst hfd1
        have HFu2 : Hid (FuAt (adF F 0 t (k : Int)) (l ++ [⟨t, k⟩]) ∧ findE (l ++ [⟨t, k⟩]) t = (k : Int)) := ⟨q5, q4⟩
        have hN := fun W => rname_at t htl W
        rw [q2] at hN
        clear q1 q2 q3 q4 q5
        generalize adF F 0 t (k : Int) = F2 at *
        go_wp2_with fail
        refine hA.mono ?_
        rintro x w3 ⟨rfl, hO3, hu3⟩
        have HV3 : Hid (OwT w3 base v (l.map Ent.name) ∧ base ≤ w3.heap.size) := ⟨HV2.out.1.keep hu3 (fun j hj => by have := HLo.out; rcases hj with e | e <;> omega), Nat.le_trans HV2.out.2 hu3.size⟩
        have ct3 := Hct.out w3 hO3.old
        have HO3 : Hid (OnAt w w3 B G F2 (2000 + 14000 * k + 4000 + 6000)) := hO3
        have hN3 := hN w3
        clear hA hO3 hu3 HV2 ct2 hN
        go_wp2_with fail
        refine hN3.mono ?_
        rintro x w4 ⟨rfl, hw⟩
        rw [hw]
        clear hw w4 hN3
        go_wp2_with (at_builtin; refine wpList_append_own _ rfl _ _ 22 rfl base 9 i0 (.string ⟨#[]⟩) 1 16 Tryz.underlying22 hi0 hz0 hz1 hz2 rfl (by decide) _ _ _ rfl (HV3.out.1.alloc _) ⟨w3.heap.size, 0, none⟩ 1 1 [tx t] rfl rfl ?c1 ?c2 ?c3 ?c4 ?c5 ?_)
        (try (case c1 => exact World.news_of_block (cs := #[tx t]) (t := 9) (fr := (0, 0)) (heap_alloc_new _ _)))
        (try (case c2 => first | rfl | (intro u hu; simp at hu; subst hu; rfl)))
        case c3 => have := HLk.out; simp; unfold maxLen; omega
        case c4 => have := HLk.out; simp; omega
        case c5 => have := HV3.out.2; simp; omega
        intro v' w5 hown' hgrow _
        have hB5 : Below base w3 w5 := ((below_alloc w3 _).mono HV3.out.2).grown hgrow (by have := HV3.out.2; simp; omega) (fun k hk => (HV3.out.1.lt k hk).1)
        have HV5 : Hid (OwT w5 base v' ((l ++ [(⟨t, k⟩ : Ent)]).map Ent.name) ∧ base ≤ w5.heap.size) := by
          refine ⟨?_, Nat.le_trans HV3.out.2 hB5.size⟩
          show w5.ownsRow _ _ _ _ ((l ++ [(⟨t, k⟩ : Ent)]).map Ent.name).length _
          rw [List.map_append, List.length_append, List.map_append]
          simpa using hown'
        have hO5 : OnAt w w5 B G F2 (2000 + 14000 * k + 4000 + 6000) := by
          have hl := HLo.out
          refine ⟨HO3.out.fs.keep (P := fun j => base ≤ j) ⟨hB5.os, hB5.tape, hB5.output, hB5.size, fun j hj hn => hB5.block j (by omega)⟩ (by omega) (by omega), HO3.out.dir, HO3.out.lo, ?_⟩
          exact HO3.out.old.trans (hB5.mono hl.2.2)
        have ct5 := Hct.out w5 hO5.old
        have hF5 := on_find hO5 (by omega) 0 t
        rw [HFu2.out.1.find, HFu2.out.2] at hF5
        clear hown' hgrow hB5 hO5 HV3 HO3 ct3
        obtain ⟨va, vn, vc, rfl⟩ : ∃ a n c, v' = .slice a n c := by
          rcases HV5.out.1.2 with ⟨q, _⟩ | ⟨g, cap, cur, q, _⟩
          · exact ⟨_, _, _, q⟩
          · exact ⟨_, _, _, q⟩
        go_wp2_with fail
        refine hF5.mono ?_
        rintro x w6 ⟨rfl, hO6, hu6⟩
        have HV6 : Hid (OwT w6 base (.slice va vn vc) ((l ++ [(⟨t, k⟩ : Ent)]).map Ent.name) ∧ base ≤ w6.heap.size) := ⟨HV5.out.1.keep hu6 (fun j hj => by have := HLo.out; rcases hj with e | e <;> omega), Nat.le_trans HV5.out.2 hu6.size⟩
        have HS6 : Hid (OnAt w w6 B G F2 (2000 + 14000 * (k + 1)) ∧ FuAt F2 (l ++ [⟨t, k⟩])) := ⟨hO6.mono (by omega), HFu2.out.1⟩
        clear hF5 hO6 hu6 HV5 ct5
        go_wp2
        go_roundw
        case rel => exact ⟨k + 1, _, _, _, F2, l ++ [⟨t, k⟩], rfl, by go_num, rfl, rfl, by omega, by omega, by have := HLk.out; show _ ≤ _; simp; omega, HS6, HV6⟩
        case measure => simp [RowKit.intOf]; omega
      · have hzb : (adR F 0 t (k : Int) == 0) = false := by simpa using q1
        rw [q2] at hA
        generalize adR F 0 t (k : Int) = er at *
        clear q2
        go_wp2_with fail
        refine hA.mono ?_
        rintro x w3 ⟨rfl, hO3, hu3⟩
        have HV3 : Hid (OwT w3 base v (l.map Ent.name) ∧ base ≤ w3.heap.size) := ⟨HV2.out.1.keep hu3 (fun j hj => by have := HLo.out; rcases hj with e | e <;> omega), Nat.le_trans HV2.out.2 hu3.size⟩
        have HS3 : Hid (OnAt w w3 B G F (2000 + 14000 * (k + 1)) ∧ FuAt F l) := ⟨hO3.mono (by omega), HFu.out⟩
        have hwas : 0 ≤ fd ∨ ¬ 0 ≤ fd := Decidable.em _
        clear hA hO3 hu3 HV2 ct2 HFu
        rcases hwas with qa | qa
        all_goals
          go_wp2
          go_roundw
          case rel => exact ⟨k + 1, _, _, _, F, l, rfl, by go_num, rfl, rfl, by omega, by omega, by have := HLk.out; show _ ≤ _; omega, HS3, HV3⟩
          case measure => simp [RowKit.intOf]; omega
    · have hend : (k < len0 ∧ ¬ k < 30) ∨ ¬ k < len0 := by omega
      clear hlt
      have HT : Hid (Ts wr base v (l.map Ent.name) ∧ base ≤ wr.heap.size) := ⟨OwT.row HV.out.1, HV.out.2⟩
      have HS0 : Hid (OnAt w wr B G F (422000 + 12000 * 0) ∧ FuAt F l) := ⟨HS.out.1.mono (by omega), HS.out.2⟩
      have hvf := HT.out.1.form
      clear HV HS HI0 HLk
      rcases hend with ⟨g0, g1⟩ | g0
      all_goals
        clear hkl hk30
        go_wp2
        go_loopw [8, 12, 13, 14, 15] (fun s8 s12 s13 s14 s15 wq => ∃ (j : Nat) (v u13 u14 u15 : Value) (F : FS) (l : List Ent), v = s8 ∧ s12 = .int .i64 j ∧ u13 = s13 ∧ u14 = s14 ∧ u15 = s15 ∧ j ≤ len1 ∧ j ≤ 30 ∧ Hid (OnAt w wq B G F (422000 + 12000 * j) ∧ FuAt F l) ∧ Hid (Ts wq base v (l.map Ent.name) ∧ base ≤ wq.heap.size)) (fun _ s12 _ _ _ _ => 30 - (RowKit.intOf s12).toNat)
        case atStart => exact ⟨0, _, _, _, _, _, l, rfl, rfl, rfl, rfl, rfl, by omega, by omega, HS0, HT⟩
        case round =>
          obtain ⟨j, v, u13, u14, u15, F, l, rfl, rfl, rfl, rfl, rfl, hjl, hj30, HS, HT⟩ := hrel
          clear HS0
          by_cases hlt : j < len1 ∧ j < 30
          · obtain ⟨hl1, hl2⟩ := hlt
            have f0 : decide ((j : Int) < (len1 : Int)) = true := decide_eq_true (by omega)
            have f1 : decide ((j : Int) < 30) = true := decide_eq_true (by omega)
            have f0' : (j : Int) < (len1 : Int) := by omega
            have f1' : (j : Int) < 30 := by omega
            obtain ⟨gb, off, t, rfl, ct0, htl⟩ := HI1.out j hl1
            have hlo : gb < w.heap.size := cell_lt ct0
            have Hct : Hid (∀ W, Below w.heap.size w W → W.cell? ⟨gb, off + j, none⟩ = some (tx t)) := fun W hb => (hb.cell (p := ⟨gb, off + j, none⟩) hlo).trans ct0
            have ct := Hct.out wr HS.out.1.old
            have hR := on_rem HS.out.1 (by omega) 0 t
            obtain ⟨r, F2, l2, hr, hF2, hl2q, hfl⟩ := rem_cases HS.out.2 HS.out.1.fs.inv HS.out.1.dir t
            rw [hr, hF2] at hR
            obtain ⟨L, hL⟩ : ∃ L, L = l.map Ent.name := ⟨_, rfl⟩
            rw [← hL] at HT hfl
            have HLl : Hid (L.length ≤ 21) := by show _ ≤ _; rw [hL, List.length_map]; exact HS.out.2.dir.most
            have HQ : Hid (FuAt F2 l2 ∧ l2.map Ent.name = L.filter (fun x => x != t) ∧ findE l2 t = -1) := ⟨hl2q, hfl.1, hfl.2.1⟩
            have hrc := hfl.2.2
            have hL21 := HLl.out
            clear ct0 hlo hr hF2 hl2q hfl hL HS
            go_wp2_with fail
            refine hR.mono ?_
            rintro x w2 ⟨rfl, hO2, hu2⟩
            have HO2 : Hid (OnAt w w2 B G F2 (422000 + 12000 * j + 8000)) := hO2
            have HT2 : Hid (Ts w2 base v L) := HT.out.1.keep hu2 (fun i hi => by have := HLo.out; rcases hi with e | e <;> omega)
            have Hb2 : Hid (base ≤ w2.heap.size) := Nat.le_trans HT.out.2 hu2.size
            clear hR hO2 hu2 HT ct
            obtain ⟨va, vc, rfl, -⟩ := HT2.out.form
            go_wp2
            go_loopw [14, 15] (fun s14 s15 wq => ∃ (i : Nat) (u : Value), u = s14 ∧ s15 = .int .i64 i ∧ i ≤ L.length ∧ Hid (OwT wq w2.heap.size u ((L.take i).filter (fun x => x != t)) ∧ Below w2.heap.size w2 wq)) (fun _ s15 _ => L.length - (RowKit.intOf s15).toNat)
            case atStart => exact ⟨0, _, rfl, rfl, by omega, World.ownsRow_nil _ _ _ _, Below.refl _ _⟩
            case round =>
              obtain ⟨i, u, rfl, rfl, hi, HU⟩ := hrel
              by_cases hil : i < L.length
              · obtain ⟨y, hy⟩ : ∃ y, L[i]? = some y := ⟨L[i], List.getElem?_eq_getElem hil⟩
                obtain ⟨g, rfl, cy, -⟩ := (HT2.out.below HU.out.2).at hy
                have hint : (i : Int) < (L.length : Int) := by omega
                have ct := Hct.out wr (HO2.out.old.trans (HU.out.2.mono HO2.out.old.size))
                have hs1 := text_same y
                have hs2 := text_same t
                have HTk : Hid (L.take (i + 1) = L.take i ++ [y]) := by show _ = _; rw [List.take_add_one, hy]; rfl
                have HFl : Hid (((L.take i).filter (fun x => x != t)).length ≤ 21) := by
                  show _ ≤ _
                  have a1 := List.length_filter_le (fun x => x != t) (L.take i)
                  rw [List.length_take] at a1
                  omega
                clear hy
                by_cases hyt : y = t
                · have HU2 : Hid (OwT wr w2.heap.size u ((L.take (i + 1)).filter (fun x => x != t)) ∧ Below w2.heap.size w2 wr) := by
                    rw [HTk.out, List.filter_append, List.filter_cons_of_neg (by simp [hyt]), List.filter_nil, List.append_nil]
                    exact HU.out
                  subst hyt
                  clear HTk HU
                  go_wp2
                  go_quiet (fail)
                  go_wp2
                  go_roundw
                  case rel =>
                    refine ⟨i + 1, _, rfl, by go_num, by omega, ?_⟩
                    have hbq := Di.drewN_below (w := wr) ⟨nq, rfl⟩
                    exact ⟨OwT.keep HU2.out.1 (P := fun _ => False) (UpdP.of_below hbq) (fun _ z => z.elim), HU2.out.2.trans (hbq.mono HU2.out.2.size)⟩
                  case measure => simp [RowKit.intOf]; omega
                · have hytb : (y == t) = false := by simpa using hyt
                  have hfe : (L.take (i + 1)).filter (fun x => x != t) = (L.take i).filter (fun x => x != t) ++ [y] := by
                    rw [HTk.out, List.filter_append, List.filter_cons_of_pos (by simpa using hyt), List.filter_nil]
                  have HFe : Hid ((L.take (i + 1)).filter (fun x => x != t) = (L.take i).filter (fun x => x != t) ++ [y]) := hfe
                  obtain ⟨Q, hQ⟩ : ∃ Q, Q = (L.take i).filter (fun x => x != t) := ⟨_, rfl⟩
                  rw [← hQ] at HU HFe HFl
                  clear HTk hfe hQ
                  go_wp2
                  go_quiet (fail)
                  obtain ⟨Wq, hWq⟩ : ∃ W, W = wr.drewN nq := ⟨_, rfl⟩
                  have hbq := Di.drewN_below (w := wr) ⟨nq, rfl⟩
                  rw [← hWq] at hbq
                  have HUq : Hid (OwT Wq w2.heap.size u Q ∧ Below w2.heap.size w2 Wq) := ⟨OwT.keep HU.out.1 (P := fun _ => False) (UpdP.of_below hbq) (fun _ z => z.elim), HU.out.2.trans (hbq.mono HU.out.2.size)⟩
                  have cyq : Wq.cell? ⟨g, i, none⟩ = some (tx y) := by rw [hbq.cell (p := ⟨g, i, none⟩) (cell_lt cy)]; exact cy
                  rw [← hWq]
                  clear hbq hWq cy HU ct
                  go_wp2_with (at_builtin; refine wpList_append_own _ rfl _ _ 22 rfl w2.heap.size 9 i0 (.string ⟨#[]⟩) 1 16 Tryz.underlying22 hi0 hz0 hz1 hz2 rfl (by decide) _ _ _ rfl (HUq.out.1.alloc _) ⟨Wq.heap.size, 0, none⟩ 1 1 [tx y] rfl rfl ?c1 ?c2 ?c3 ?c4 ?c5 ?_)
                  (try (case c1 => exact World.news_of_block (cs := #[tx y]) (t := 9) (fr := (0, 0)) (heap_alloc_new _ _)))
                  (try (case c2 => first | rfl | (intro u hu; simp at hu; subst hu; rfl)))
                  case c3 => have := HFl.out; unfold maxLen; omega
                  case c4 => have := HFl.out; omega
                  case c5 => have := HUq.out.2.size; simp; omega
                  intro v' w5 hown' hgrow _
                  have HU5 : Hid (OwT w5 w2.heap.size v' ((L.take (i + 1)).filter (fun x => x != t)) ∧ Below w2.heap.size w2 w5) := by
                    rw [HFe.out]
                    exact own_app HUq.out.1 HUq.out.2 y _ hown' hgrow
                  clear hown' hgrow HUq
                  go_wp2
                  go_roundw
                  case rel => exact ⟨i + 1, _, rfl, by go_num, by omega, HU5⟩
                  case measure => simp [RowKit.intOf]; omega
              · have hint : ¬ (i : Int) < (L.length : Int) := by omega
                have hUe := HU.out
                rw [List.take_of_length_le (by omega)] at hUe
                obtain ⟨fl, hfl⟩ : ∃ fl, fl = L.filter (fun x => x != t) := ⟨_, rfl⟩
                rw [← hfl] at hUe hrc HQ
                have HTu : Hid (Ts wr base u fl) := (OwT.row hUe.1).mono Hb2.out
                have HW2s : Hid (w2.heap.size ≤ wr.heap.size) := hUe.2.size
                have HOw : Hid (OnAt w wr B G F2 (422000 + 12000 * j + 8000)) := HO2.out.below hUe.2
                obtain ⟨ua, uc, rfl, -⟩ := HTu.out.form
                have ct := Hct.out wr HOw.out.old
                have hFd := on_find HOw.out (by omega) 0 t
                rw [HQ.out.1.find, HQ.out.2.2] at hFd
                clear hUe HU hfl HT2 HO2
                rcases hrc with ⟨rfl, hlq⟩ | ⟨rfl, hlq⟩
                · have l0 : (fl.length : Int) < (L.length : Int) := by omega
                  go_wp2_with fail
                  refine hFd.mono ?_
                  rintro x w6 ⟨rfl, hO6, hu6⟩
                  have HT6 : Hid (Ts w6 base (.slice ua fl.length uc) (l2.map Ent.name) ∧ base ≤ w6.heap.size) := ⟨by rw [HQ.out.2.1]; exact HTu.out.keep hu6 (fun i hi => by have := HLo.out; rcases hi with e | e <;> omega), Nat.le_trans (Nat.le_trans Hb2.out HW2s.out) hu6.size⟩
                  have HS6 : Hid (OnAt w w6 B G F2 (422000 + 12000 * (j + 1)) ∧ FuAt F2 l2) := ⟨hO6.mono (by omega), HQ.out.1⟩
                  clear hFd hO6 hu6 HTu HOw ct
                  go_wp2
                  go_roundw
                  case rel => exact ⟨j + 1, _, _, _, _, F2, l2, rfl, by go_num, rfl, rfl, rfl, by omega, by omega, HS6, HT6⟩
                  case measure => simp [RowKit.intOf]; omega
                · have l0 : ¬ (fl.length : Int) < (L.length : Int) := by omega
                  go_wp2_with fail
                  refine hFd.mono ?_
                  rintro x w6 ⟨rfl, hO6, hu6⟩
                  have HT6 : Hid (Ts w6 base (.slice ua fl.length uc) (l2.map Ent.name) ∧ base ≤ w6.heap.size) := ⟨by rw [HQ.out.2.1]; exact HTu.out.keep hu6 (fun i hi => by have := HLo.out; rcases hi with e | e <;> omega), Nat.le_trans (Nat.le_trans Hb2.out HW2s.out) hu6.size⟩
                  have HS6 : Hid (OnAt w w6 B G F2 (422000 + 12000 * (j + 1)) ∧ FuAt F2 l2) := ⟨hO6.mono (by omega), HQ.out.1⟩
                  clear hFd hO6 hu6 HTu HOw ct
                  go_wp2
                  go_roundw
                  case rel => exact ⟨j + 1, _, _, _, _, F2, l2, rfl, by go_num, rfl, rfl, rfl, by omega, by omega, HS6, HT6⟩
                  case measure => simp [RowKit.intOf]; omega
          · have hend : (j < len1 ∧ ¬ j < 30) ∨ ¬ j < len1 := by omega
            have hLs := List_at HS.out.1.fs HS.out.1.dir (by omega) 0
            rw [HS.out.2.list] at hLs
            have HOn : Hid (OnAt w wr B G F (422000 + 12000 * j)) := HS.out.1
            obtain ⟨L, hL⟩ : ∃ L, L = l.map Ent.name := ⟨_, rfl⟩
            have hL21 : L.length ≤ 21 := by rw [hL, List.length_map]; exact HS.out.2.dir.most
            simp only [← hL] at hLs
            rw [← hL] at HT
            obtain ⟨va, vc, rfl, -⟩ := HT.out.1.form
            have l21 : (L.length : Int) ≤ 21 := by omega
            clear hlt HS hL
            rcases hend with ⟨f0, f1⟩ | f0
            all_goals
              go_wp2_with fail
              refine hLs.mono ?_
              rintro x w2 ⟨v2, u2, rfl, hTs, hNs, hf2, hbg2⟩
              obtain ⟨xa, xc, rfl, -⟩ := hTs.form
              obtain ⟨ya, yc, rfl, -⟩ := hNs.form
              have hO2 : OnAt w w2 B G F (422000 + 12000 * j + 4000) := HOn.out.call hf2 HOn.out.dir hbg2
              have hX := texts_same _ _ _ _ _ w2 hTs (HT.out.1.keep hbg2 (fun i hi => by have := HLo.out; rcases hi with e | e <;> omega)) (by omega)
              have HB2 : Hid (Below w.heap.size w w2) := hO2.old
              clear hLs hTs hNs hf2 hbg2 hO2
              go_wp2_with fail
              refine hX.mono ?_
              rintro x w3 ⟨rfl, hq⟩
              have HB3 : Hid (Below w.heap.size w w3) := HB2.out.trans ((Di.drewN_below hq).mono HB2.out.size)
              have hAw := awake_at w3
              clear hX hq
              go_wp2_with fail
              refine hAw.mono ?_
              rintro x w4 ⟨rfl, hb4⟩
              have HB4 : Hid (Below w.heap.size w w4) := HB3.out.trans (hb4.mono HB3.out.size)
              clear hAw hb4
              go_wp2
              go_ret
              exact ⟨rfl, HB4.out⟩
set_option maxRecDepth 100000 in
theorem names_lifted (os : Os) (started : os.Started) (H : Type) (enc : TypeId × Value → H) :
    ReturnsInHanded {} Tryz.checked os 5 .any (fun w args => (Rows.dirNamesSpec.pre enc Tryz.prog Tryz.f5 Rows.dirNamesRow.domain false w args ∧ laidMetH Tryz.prog Rows.dirNamesRow.laid w) ∧ sizedMet enc Tryz.prog Tryz.f5 (OpenSpec.ofChange Rows.dirNamesSpec) false w args) (Rows.dirNamesSpec.post enc Tryz.prog Tryz.f5 false true false false) := by
  refine returnsInHanded_of_change_and (C := Tryz.checked) (X := fun w _ => laidMetH Tryz.prog Rows.dirNamesRow.laid w) (fun _ _ _ hh h => h.of_heap hh) own started (by kernel_rfl) Tryz.func5
    (ChangeSpec.witness_shaped (enc := enc) (C := Tryz.checked) (os := os) (X := fun w _ => laidMetH Tryz.prog Rows.dirNamesRow.laid w) false (World.laidAll Tryz.prog os Rows.dirNamesRow.laid) #[.slice none 0 0, .slice none 0 0] 8 (World.laidAll_os _ _ _)
      (World.shaped_of_ZipB (by kernel_rfl) (by kernel_rfl)) (by kernel_rfl) (by kernel_rfl) (by kernel_rfl)
      (by rw [MakeChecks.laidMetH_plain _ _ _ (by kernel_rfl)]; exact laidMet_laidAll _ (by kernel_rfl) (by kernel_rfl))) ?_
  intro W base args ds gs before hval0 hW hcnd hsz hL _
  have hval : ∀ (j : Nat) t v, Tryz.f5.params[j]? = some t → args[j]? = some v → Value.okWide Tryz.prog W .any base t v := hval0
  have hW' := hW
  obtain ⟨p, q, hA0, hV, rfl, hfz, hnd⟩ := hW
  have hA : DataW.TrodAll enc Tryz.prog W 0 (fun _ => true) true Tryz.f5.params.toList args.toList ds p := hA0
  rw [Tryz.params5] at hA hval
  obtain ⟨v0, vs0, d0, ds0, p0, q0, hargs, rfl, rfl, h0, r0⟩ := trodAll_cons hA
  obtain ⟨v1, vs1, d1, ds1, p1, q1, rfl, rfl, rfl, h1, r1⟩ := trodAll_cons r0
  obtain ⟨rfl, rfl, rfl⟩ := trodAll_nil r1
  obtain rfl : args = #[v0, v1] := by cases args; simp_all
  obtain ⟨rfl, rfl⟩ := trodVars_none hV
  have k0 := h0
  have lt0 : ∀ x ∈ p0, x.block < W.heap.size := by obtain ⟨m, hm⟩ := k0; exact DataW.trod_lt m _ _ _ hm
  obtain ⟨a0, len0, cap0, rfl⟩ := okWide_slice Tryz.underlying22 (hval 0 22 v0 rfl rfl)
  have k1 := h1
  have lt1 : ∀ x ∈ p1, x.block < W.heap.size := by obtain ⟨m, hm⟩ := k1; exact DataW.trod_lt m _ _ _ hm
  obtain ⟨a1, len1, cap1, rfl⟩ := okWide_slice Tryz.underlying22 (hval 1 22 v1 rfl rfl)
  clear hA0 hval0
  have hin0 : len0 ≤ 9223372036854775807 ∧ TxIn W a0 len0 := by
    obtain ⟨fuel, hf⟩ := h0
    exact texts_in (by simpa [Value.cells] using hf)
  have hin1 : len1 ≤ 9223372036854775807 ∧ TxIn W a1 len1 := by
    obtain ⟨fuel, hf⟩ := h1
    exact texts_in (by simpa [Value.cells] using hf)
  have hwalk : Calls Tryz.prog 5 #[.slice a0 len0 cap0, .slice a1 len1 cap1] W fun e w' => e = .returned (.bool true) ∧ Below W.heap.size W w' := names_walk a0 len0 cap0 a1 len1 cap1 W hin0.1 hin0.2 hin1.1 hin1.2
  refine hwalk.mono fun e W' ⟨he, bel⟩ => ?_
  subst he
  exact ⟨_, rfl, _, _, _, [], _, [], hW', trodAll_mk1 (shut_bool Tryz.underlying4 _), (trodAll_cons_mk (Below.trod laidOut (by kernel_rfl) (of_decide_eq_true (by kernel_rfl)) k0 bel lt0) (trodAll_cons_mk (Below.trod laidOut (by kernel_rfl) (of_decide_eq_true (by kernel_rfl)) k1 bel lt1) trodAll_mk0)), rfl, bel.frame _, fun h => by cases h⟩

theorem names_said : Rows.DirNamesSaid :=
  OpenClaim.holds_of_wide 5 Tryz.f5 rfl rfl rfl rfl rfl rfl rfl ⟨rfl, rfl, rfl, rfl, rfl⟩ rfl rfl rfl rfl rfl (by kernel_rfl) Tryz.func5 (by kernel_rfl)
    (of_decide_eq_true (by kernel_rfl)) (by unfold Func.isWrapper; first | (rw [if_pos (by decide +kernel)]; kernel_rfl) | (rw [if_neg (by decide +kernel)]; exact ⟨rfl, rfl⟩))
    (fun os started H enc _ => names_lifted os started H enc)
theorem names_holds : Rows.DirNamesCardSaid :=
  Claim7.holds_tied_plain_at .later [] _ _ _ _ names_said (fun _ h => by cases h) (by kernel_rfl) (fun _ h => by cases h) dirNames_row_tie rfl ⟨rfl, rfl⟩ (by kernel_rfl) rfl
    (ask_card 5 "janus/januslaw16.DirNames" Tryz.f5 [22, 22] (by kernel_rfl) Tryz.func5 (by rw [Tryz.params5]) (by kernel_rfl)) (by kernel_rfl)
#print axioms names_holds
end Go.Proofs.YtcaofdbcgdgbbaaGreatDoor
