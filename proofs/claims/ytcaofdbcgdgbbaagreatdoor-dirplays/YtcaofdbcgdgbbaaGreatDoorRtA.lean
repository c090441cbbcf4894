/- The document's answer on names and paths (janusref16): part, Name, Split. -/
import Derived.Test.YtcaofdbcgdgbbaaGreatDoorDtCD
namespace Go.Proofs.YtcaofdbcgdgbbaaGreatDoor
open Go.RowKit Go.Lib
set_option linter.unusedVariables false

theorem byte_is {l : List UInt8} {j : Nat} (h : j < l.length) (b : UInt8) : ((nums l).getD j 0 = (b.toNat : Int) ∧ l[j] = b) ∨ (((nums l).getD j 0 == (b.toNat : Int)) = false ∧ l[j] ≠ b) := by
  rw [nums_at l j h]
  by_cases e : l[j] = b
  · exact Or.inl ⟨by rw [e], e⟩
  · refine Or.inr ⟨beq_false_of_ne (fun q => e ?_), e⟩
    apply UInt8.toNat_inj.1
    omega
set_option maxHeartbeats 1000000 in
theorem rpart_at (l : List UInt8) (hl : l.length ≤ 9223372036854775807) (w : World) :
    Calls Tryz.prog 33 #[tx l] w fun e w' => e = .returned (.int .i64 (partE l)) ∧ w' = w := by
  by_cases h8 : 8 < l.length
  · have g8 : (8 : Int) < (l.length : Int) := by omega
    have HE : Hid (partE l = 36) := by show _ = _; unfold partE; rw [if_pos h8]
    go_enter Tryz.func33, Tryz.ntmps33
    go_wp2
    go_ret
    exact ⟨by rw [HE.out]; rfl, rfl⟩
  · have g8 : ¬ (8 : Int) < (l.length : Int) := by omega
    go_enter Tryz.func33, Tryz.ntmps33
    go_wp2
    go_loopw [3] (fun s3 wr => ∃ (k : Nat), k ≤ l.length ∧ s3 = .int .i64 k ∧ Hid (∀ j (hj : j < l.length), j < k → l[j] ≠ 0) ∧ wr = w) (fun s3 _ => l.length - (RowKit.intOf s3).toNat)
    case atStart => exact ⟨0, by omega, rfl, fun j _ h => by omega, rfl⟩
    case round =>
      obtain ⟨k, hk, rfl, HI, rfl⟩ := hrel
      by_cases hlt : k < l.length
      · have g1 : (k : Int) < (l.length : Int) := by omega
        have hix := tx_index l k hlt
        rcases byte_is hlt 0 with ⟨q1, q2⟩ | ⟨q1, q2⟩
        · rw [q1] at hix
          have HE : Hid (partE l = 22) := by
            show _ = _
            unfold partE
            rw [if_neg h8, if_pos (List.any_eq_true.2 ⟨_, List.getElem_mem hlt, by simp [q2]⟩)]
          clear q1 q2
          go_wp2
          go_ret
          exact ⟨by rw [HE.out]; rfl, rfl⟩
        · have HI2 : Hid (∀ j (hj : j < l.length), j < k + 1 → l[j] ≠ 0) := fun j hj hjk => by
            rcases Nat.lt_or_ge j k with q | q
            · exact HI.out j hj q
            · have e : j = k := by omega
              subst e
              exact q2
          have e0 : ((0 : UInt8).toNat : Int) = 0 := rfl
          rw [e0] at q1
          clear q2 e0
          generalize (nums l).getD k 0 = x at *
          go_wp2
          go_roundw
          case rel => exact ⟨k + 1, by omega, by go_num, HI2, by first | rfl | trivial⟩
          case measure => simp [RowKit.intOf]; omega
      · have g1 : ¬ (k : Int) < (l.length : Int) := by omega
        have HE : Hid (partE l = 0) := by
          show _ = _
          unfold partE
          rw [if_neg h8, if_neg]
          intro q
          obtain ⟨b, hb, hb0⟩ := List.any_eq_true.1 q
          obtain ⟨j, hj, rfl⟩ := List.getElem_of_mem hb
          exact HI.out j hj (by omega) (by simpa using hb0)
        go_wp2
        go_ret
        exact ⟨by rw [HE.out]; rfl, rfl⟩
set_option maxHeartbeats 1000000 in
theorem rname_at (l : List UInt8) (hl : l.length ≤ 9223372036854775807) (w : World) :
    Calls Tryz.prog 30 #[tx l] w fun e w' => e = .returned (.bool (isName l)) ∧ w' = w := by
  have hPt := rpart_at l hl w
  go_enter Tryz.func30, Tryz.ntmps30
  go_wp2
  go_loopw [3] (fun s3 wr => ∃ (k : Nat), k ≤ l.length ∧ s3 = .int .i64 k ∧ Hid (∀ j (hj : j < l.length), j < k → l[j] ≠ 47) ∧ wr = w) (fun s3 _ => l.length - (RowKit.intOf s3).toNat)
  case atStart => exact ⟨0, by omega, rfl, fun j _ h => by omega, rfl⟩
  case round =>
    obtain ⟨k, hk, rfl, HI, rfl⟩ := hrel
    by_cases hlt : k < l.length
    · have g1 : (k : Int) < (l.length : Int) := by omega
      have hix := tx_index l k hlt
      have e0 : ((47 : UInt8).toNat : Int) = 47 := rfl
      rcases byte_is hlt 47 with ⟨q1, q2⟩ | ⟨q1, q2⟩
      · rw [q1, e0] at hix
        have HE : Hid (isName l = false) := name_no hlt (Or.inr q2)
        clear q1 q2 e0
        go_wp2
        go_ret
        exact ⟨by rw [HE.out]; rfl, rfl⟩
      · have HI2 : Hid (∀ j (hj : j < l.length), j < k + 1 → l[j] ≠ 47) := fun j hj hjk => by
          rcases Nat.lt_or_ge j k with q | q
          · exact HI.out j hj q
          · have e : j = k := by omega
            subst e
            exact q2
        rw [e0] at q1
        clear q2 e0
        generalize (nums l).getD k 0 = x at *
        go_wp2
        go_roundw
        case rel => exact ⟨k + 1, by omega, by go_num, HI2, by first | rfl | trivial⟩
        case measure => simp [RowKit.intOf]; omega
    · have g1 : ¬ (k : Int) < (l.length : Int) := by omega
      have H47 : Hid (∀ b ∈ l, b ≠ 47) := fun b hb => by
        obtain ⟨j, hj, rfl⟩ := List.getElem_of_mem hb
        exact HI.out j hj (by omega)
      by_cases he : l = []
      · subst he
        go_wp2
        go_ret
        exact ⟨rfl, rfl⟩
      · have hE : l.isEmpty = false := by simpa using he
        have HN : Hid (isName l = decide (partE l = 0)) := part_name he H47.out
        by_cases hz : partE l = 0
        · rw [hz] at hPt
          have HN2 : Hid (isName l = true) := by rw [HN.out, decide_eq_true hz]; rfl
          clear hz HN
          go_wp2_with fail
          refine hPt.mono ?_
          rintro x w1 ⟨rfl, hw⟩
          rw [hw]
          clear hw w1 hPt
          go_wp2
          go_ret
          exact ⟨by rw [HN2.out]; rfl, rfl⟩
        · have hzb : (partE l == 0) = false := by simpa using hz
          have HN2 : Hid (isName l = false) := by rw [HN.out, decide_eq_false hz]; rfl
          clear HN
          generalize partE l = pe at *
          go_wp2_with fail
          refine hPt.mono ?_
          rintro x w1 ⟨rfl, hw⟩
          rw [hw]
          clear hw w1 hPt
          go_wp2
          go_ret
          exact ⟨by rw [HN2.out]; rfl, rfl⟩
/-- Where the reference's walk over a path stands. -/
def RpIs (l : List UInt8) (k fr : Nat) (ts : List (List UInt8)) : Prop := (k ≤ l.length ∧ PaIs l k fr ts) ∨ (k = l.length + 1 ∧ partsP [] l = ts)
section
variable {w wr w' : World} {v : Value} {ts : List (List UInt8)}
/-- A part more. -/
theorem own_app (h : OwT wr w.heap.size v ts) (hb : Below w.heap.size w wr) (t : List UInt8) {v' : Value} (o : Obj) (hown : w'.ownsRow w.heap.size 9 1 v' (ts.length + 1) (ts.map tx ++ [tx t])) (hg : (wr.alloc o).grownBy w' v.ownBlock) : OwT w' w.heap.size v' (ts ++ [t]) ∧ Below w.heap.size w w' := by
  refine ⟨?_, ?_⟩
  · show w'.ownsRow _ _ _ _ (ts ++ [t]).length _
    rw [List.length_append, List.map_append]
    exact hown
  · exact (hb.trans ((below_alloc wr o).mono hb.size)).grown hg (by have := hb.size; simp; omega) (fun k hk => (h.lt k hk).1)
end
set_option maxHeartbeats 4000000 in
set_option maxRecDepth 100000 in
theorem rsplit_at (l : List UInt8) (hl : l.length ≤ 9223372036854775807) (w : World) :
    Calls Tryz.prog 9 #[tx l] w fun e w' => ∃ v, e = .returned (.tuple #[v, .int .i64 (splitR l)]) ∧ Ts w' w.heap.size v (splitP l) ∧ Below w.heap.size w w' := by
  by_cases he : l = []
  · subst he
    go_enter Tryz.func9, Tryz.ntmps9
    go_wp2
    go_ret2
    exact ⟨_, rfl, Ts.nil _ _, Below.refl _ _⟩
  · have hE : l.isEmpty = false := by simpa using he
    have hs := text_same l
    by_cases h32 : 32 < l.length
    · have g1 : (32 : Int) < (l.length : Int) := by omega
      have HR : Hid (splitR l = 36 ∧ splitP l = []) := by
        unfold splitR splitP
        rw [if_neg he, if_neg he, if_pos h32, if_pos h32]
        exact ⟨rfl, rfl⟩
      go_enter Tryz.func9, Tryz.ntmps9
      go_wp2
      go_ret2
      exact ⟨_, by rw [HR.out.1]; rfl, by rw [HR.out.2]; exact Ts.nil _ _, Below.refl _ _⟩
    · have g32 : ¬ (32 : Int) < (l.length : Int) := by omega
      have HR : Hid (splitR l = firstE (partsP [] l) ∧ splitP l = (if firstE (partsP [] l) = 0 then partsP [] l else [])) := by
        unfold splitR splitP
        rw [if_neg he, if_neg he, if_neg h32, if_neg h32]
        exact ⟨rfl, rfl⟩
      have HLt : Hid ((partsP [] l).length ≤ 33 ∧ ∀ t ∈ partsP [] l, t.length ≤ 9223372036854775807) := by
        refine ⟨by have := parts_count [] l; omega, fun t ht => ?_⟩
        have := parts_size [] l t ht
        simp at this
        omega
      obtain ⟨i0, hi0, hzz⟩ := Option.map_eq_some_iff.1 txtInfo
      simp only [Prod.mk.injEq] at hzz
      obtain ⟨hz0, hz1, hz2⟩ := hzz
      go_enter Tryz.func9, Tryz.ntmps9
      go_wp2
      go_loopw [4, 5, 6] (fun s4 s5 s6 wr => ∃ (k fr : Nat) (v : Value) (ts : List (List UInt8)), v = s4 ∧ s5 = .int .i64 fr ∧ s6 = .int .i64 k ∧ k ≤ l.length + 1 ∧ fr ≤ 40 ∧ Hid (RpIs l k fr ts) ∧ Hid (ts.length ≤ k) ∧ Hid (OwT wr w.heap.size v ts ∧ Below w.heap.size w wr)) (fun _ _ s6 _ => l.length + 1 - (RowKit.intOf s6).toNat)
      case atStart => exact ⟨0, 0, _, [], rfl, rfl, rfl, by omega, by omega, Or.inl ⟨by omega, paIs_start l⟩, Nat.le_refl _, World.ownsRow_nil _ _ _ _, Below.refl _ _⟩
      case round =>
        obtain ⟨k, fr, v, ts, rfl, rfl, rfl, hk, hfr, HI, HT, HS⟩ := hrel
        by_cases hle : k ≤ l.length
        · have gle : (k : Int) ≤ (l.length : Int) := by omega
          have hPa : PaIs l k fr ts := by
            rcases HI.out with q | q
            · exact q.2
            · omega
          have HPa : Hid (PaIs l k fr ts) := hPa
          clear hPa HI
          have hstop : ∀ (tail : Bool), (tail = true → k = l.length) → (tail = false → k < l.length) → True := fun _ _ _ => trivial
          by_cases hlt : k < l.length
          · have g1 : (k : Int) < (l.length : Int) := by omega
            have hix := tx_index l k hlt
            have e0 : ((47 : UInt8).toNat : Int) = 47 := rfl
            rcases byte_is hlt 47 with ⟨q1, q2⟩ | ⟨q1, q2⟩
            · rw [q1, e0] at hix
              have HI1 := paIs_slash HPa.out hlt q2
              clear q1 q2 e0 HPa hstop
              by_cases hfl : fr < k
              · have hcut := tx_cut l fr k (by omega) (by omega)
                have g2 : (fr : Int) < (k : Int) := by omega
                rw [if_pos hfl] at HI1
                have HI2 : Hid (RpIs l (k + 1) (k + 1) (ts ++ [cut l fr k])) := Or.inl ⟨by omega, HI1⟩
                generalize cut l fr k = t at *
                clear HI1
                go_wp2_with (at_builtin; refine wpList_append_own _ rfl _ _ 22 rfl w.heap.size 9 i0 (.string ⟨#[]⟩) 1 16 Tryz.underlying22 hi0 hz0 hz1 hz2 rfl (by decide) _ _ _ rfl (HS.out.1.alloc _) ⟨wr.heap.size, 0, none⟩ 1 1 [tx t] rfl rfl ?c1 ?c2 ?c3 ?c4 ?c5 ?_)
                case c1 => exact World.news_of_block (cs := #[tx t]) (t := 9) (fr := (0, 0)) (heap_alloc_new _ _)
                case c2 => intro u hu; simp at hu; subst hu; rfl
                case c3 => have := HT.out; unfold maxLen; omega
                case c4 => have := HT.out; omega
                case c5 => have := HS.out.2.size; simp; omega
                intro v' w2 hown' hgrow _
                have HS2 : Hid (OwT w2 w.heap.size v' (ts ++ [t]) ∧ Below w.heap.size w w2) := own_app HS.out.1 HS.out.2 t _ hown' hgrow
                clear hown' hgrow HS
                go_wp2
                go_roundw
                case rel => exact ⟨k + 1, k + 1, _, _, rfl, by go_num, by go_num, by omega, by omega, HI2, by have := HT.out; show _ ≤ _; simp; omega, HS2⟩
                case measure => simp [RowKit.intOf]; omega
              · have g2 : ¬ (fr : Int) < (k : Int) := by omega
                rw [if_neg hfl] at HI1
                have HI2 : Hid (RpIs l (k + 1) (k + 1) ts) := Or.inl ⟨by omega, HI1⟩
                clear HI1
                go_wp2
                go_roundw
                case rel => exact ⟨k + 1, k + 1, _, _, rfl, by go_num, by go_num, by omega, by omega, HI2, by have := HT.out; show _ ≤ _; omega, HS⟩
                case measure => simp [RowKit.intOf]; omega
            · have HI2 : Hid (RpIs l (k + 1) fr ts) := Or.inl ⟨by omega, paIs_run HPa.out (by omega) (fun j hj hj1 => by
                have e : j = 0 := by omega
                subst e
                exact q2)⟩
              rw [e0] at q1
              clear q2 e0 HPa hstop
              generalize (nums l).getD k 0 = x at *
              go_wp2
              go_roundw
              case rel => exact ⟨k + 1, fr, _, _, rfl, rfl, by go_num, by omega, by omega, HI2, by have := HT.out; show _ ≤ _; omega, HS⟩
              case measure => simp [RowKit.intOf]; omega
          · have hkl : k = l.length := by omega
            have g1 : ¬ (k : Int) < (l.length : Int) := by omega
            have HIe : Hid (partsP [] l = (if fr < l.length then ts ++ [l.drop fr] else ts)) := paIs_end (by rw [← hkl]; exact HPa.out)
            clear HPa hstop
            by_cases hfl : fr < k
            · have hcut := tx_cut l fr k (by omega) (by omega)
              have hcd : cut l fr k = l.drop fr := by rw [hkl]; unfold cut; exact List.take_of_length_le (by rw [List.length_drop]; omega)
              have g2 : (fr : Int) < (k : Int) := by omega
              have HI2 : Hid (RpIs l (k + 1) (k + 1) (ts ++ [cut l fr k])) := Or.inr ⟨by omega, by rw [HIe.out, if_pos (by omega), hcd]⟩
              clear hcd HIe
              generalize cut l fr k = t at *
              clear hkl
              go_wp2_with (at_builtin; refine wpList_append_own _ rfl _ _ 22 rfl w.heap.size 9 i0 (.string ⟨#[]⟩) 1 16 Tryz.underlying22 hi0 hz0 hz1 hz2 rfl (by decide) _ _ _ rfl (HS.out.1.alloc _) ⟨wr.heap.size, 0, none⟩ 1 1 [tx t] rfl rfl ?c1 ?c2 ?c3 ?c4 ?c5 ?_)
              (try (case c1 => exact World.news_of_block (cs := #[tx t]) (t := 9) (fr := (0, 0)) (heap_alloc_new _ _)))
              case c2 => first | rfl | (intro u hu; simp at hu; subst hu; rfl)
              case c3 => have := HT.out; unfold maxLen; omega
              case c4 => have := HT.out; omega
              case c5 => have := HS.out.2.size; simp; omega
              intro v' w2 hown' hgrow _
              have HS2 : Hid (OwT w2 w.heap.size v' (ts ++ [t]) ∧ Below w.heap.size w w2) := own_app HS.out.1 HS.out.2 t _ hown' hgrow
              clear hown' hgrow HS
              go_wp2
              go_roundw
              case rel => exact ⟨k + 1, k + 1, _, _, rfl, by go_num, by go_num, by omega, by omega, HI2, by have := HT.out; show _ ≤ _; simp; omega, HS2⟩
              case measure => simp [RowKit.intOf]; omega
            · have g2 : ¬ (fr : Int) < (k : Int) := by omega
              have HI2 : Hid (RpIs l (k + 1) (k + 1) ts) := Or.inr ⟨by omega, by rw [HIe.out, if_neg (by omega)]⟩
              clear HIe hkl
              go_wp2
              go_roundw
              case rel => exact ⟨k + 1, k + 1, _, _, rfl, by go_num, by go_num, by omega, by omega, HI2, by have := HT.out; show _ ≤ _; omega, HS⟩
              case measure => simp [RowKit.intOf]; omega
        · have gle : ¬ (k : Int) ≤ (l.length : Int) := by omega
          have hPe : partsP [] l = ts := by
            rcases HI.out with q | q
            · omega
            · exact q.2
          rw [hPe] at HR HLt
          clear HI hPe HT
          have HT1 : Hid (Ts wr w.heap.size v ts ∧ Below w.heap.size w wr) := ⟨OwT.row HS.out.1, HS.out.2⟩
          obtain ⟨a, cap, rfl, -⟩ := HT1.out.1.form
          have hL33 := HLt.out.1
          clear HS
          go_wp2
          go_loopw [7] (fun s7 wq => ∃ (j : Nat), s7 = .int .i64 j ∧ j ≤ ts.length ∧ Hid (∀ i t, i < j → ts[i]? = some t → partE t = 0) ∧ wq = wr) (fun s7 _ => ts.length - (RowKit.intOf s7).toNat)
          case atStart => exact ⟨0, rfl, by omega, fun i t h => by omega, rfl⟩
          case round =>
            obtain ⟨j, rfl, hj, HF, rfl⟩ := hrel
            by_cases hlt : j < ts.length
            · obtain ⟨t, ht⟩ : ∃ t, ts[j]? = some t := ⟨ts[j], List.getElem?_eq_getElem hlt⟩
              obtain ⟨g, rfl, c0, -⟩ := HT1.out.1.at ht
              have hint : (j : Int) < (ts.length : Int) := by omega
              have HK : Hid (ts[j]? = some t) := ht
              have hPt := rpart_at t (HLt.out.2 t (List.mem_of_getElem? ht)) wr
              clear ht
              by_cases hz : partE t = 0
              · rw [hz] at hPt
                have HF2 : Hid (∀ i t, i < j + 1 → ts[i]? = some t → partE t = 0) := fun i x hi hx => by
                  rcases Nat.lt_or_ge i j with q | q
                  · exact HF.out i x q hx
                  · have e : i = j := by omega
                    subst e
                    rw [HK.out] at hx
                    rw [← Option.some.inj hx]
                    exact hz
                clear hz
                go_wp2_with fail
                refine hPt.mono ?_
                rintro x w2 ⟨rfl, hw⟩
                rw [hw]
                clear hw w2 hPt
                go_wp2
                go_roundw
                case rel => exact ⟨j + 1, by go_num, by omega, HF2, by first | rfl | trivial⟩
                case measure => simp [RowKit.intOf]; omega
              · have HE : Hid (firstE ts = partE t) := first_at HF.out HK.out hz
                have HEz : Hid (¬ firstE ts = 0) := by rw [HE.out]; exact hz
                have hzb : (partE t == 0) = false := by simpa using hz
                generalize partE t = pe at *
                go_wp2_with fail
                refine hPt.mono ?_
                rintro x w2 ⟨rfl, hw⟩
                rw [hw]
                clear hw w2 hPt
                go_wp2
                go_ret2
                exact ⟨_, by rw [HR.out.1, HE.out]; rfl, by rw [HR.out.2, if_neg HEz.out]; exact Ts.nil _ _, HT1.out.2⟩
            · have hnl : ¬ (j : Int) < (ts.length : Int) := by omega
              have HE : Hid (firstE ts = 0) := first_none (fun i t ht => HF.out i t (by have := (List.getElem?_eq_some_iff.1 ht).1; omega) ht)
              go_wp2
              go_ret2
              exact ⟨_, by rw [HR.out.1, HE.out]; rfl, by rw [HR.out.2, HE.out, if_pos rfl]; exact HT1.out.1, HT1.out.2⟩
end Go.Proofs.YtcaofdbcgdgbbaaGreatDoor
