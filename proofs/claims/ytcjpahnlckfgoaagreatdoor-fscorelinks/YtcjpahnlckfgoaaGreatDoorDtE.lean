/- Package dir, over a file system: isDir, entries. -/
import Derived.Test.YtcjpahnlckfgoaaGreatDoorDtB
import Derived.Test.YtcjpahnlckfgoaaGreatDoorDirFG
import Derived.Deep.MidRow
namespace Go.Proofs.YtcjpahnlckfgoaaGreatDoor
open Go.RowKit Go.Lib
set_option linter.unusedVariables false

section
variable {w w' : World} {m : Nat} {B : Sto} {F : FS}
theorem bg_of (h : Below w.heap.size w w') : BG B w w' := SU.of_below h
set_option maxHeartbeats 2000000 in
set_option maxRecDepth 100000 in
theorem isDir_at (h : Fs w B F m) (hm : m ≤ 800000000000) (i : Int) :
    Calls Tryz.prog 182 #[sto B, .int .i64 i] w fun e w' => e = .returned (.bool (isD F i)) ∧ Fs w' B F (m + 3000) ∧ BG B w w' := by
  have hC := get_all h (by omega) i
  have HF : Hid (FInv F) := h.inv
  obtain ⟨R, hR⟩ : ∃ R, R = irow (gtX F i) := ⟨_, rfl⟩
  have HRl : Hid ((gtX F i).length = 9) := gtX_len h.inv i
  have HRs : Hid (R.size = 9) := by rw [hR]; show _ = _; rw [irow_size]; exact HRl.out
  have HRo : Hid (R.all (·.oneCell') = true) := by rw [hR]; exact irow_one _
  have HRq : Hid (R = irow (gtX F i)) := hR
  rw [← hR] at hC
  have hz := lit_zi
  clear hR h
  have key : ∀ (er : Int) (b : Bool), gtR i = er → isD F i = b → ((er = 101 ∧ b = false) ∨ (er = 0 ∧ b = decide ((gtX F i).getD 0 0 = 2))) → Calls Tryz.prog 182 #[sto B, .int .i64 i] w fun e w' => e = .returned (.bool (isD F i)) ∧ Fs w' B F (m + 3000) ∧ BG B w w' := fun er b h1 h2 h3 => by
    rw [h1] at hC
    rw [h2]
    obtain ⟨kd, hkd⟩ : ∃ kd, kd = (gtX F i).getD 0 0 := ⟨_, rfl⟩
    have HK : Hid (kd = (gtX F i).getD 0 0) := hkd
    rw [← hkd] at h3
    clear hkd h1 h2
    have h3' : (er = 101 ∧ b = false) ∨ (er = 0 ∧ kd = 2 ∧ b = true) ∨ (er = 0 ∧ (kd == 2) = false ∧ b = false) := by
      rcases h3 with q | ⟨q1, q2⟩
      · exact Or.inl q
      · by_cases e : kd = 2
        · exact Or.inr (Or.inl ⟨q1, e, by rw [q2, decide_eq_true e]⟩)
        · exact Or.inr (Or.inr ⟨q1, by simpa using e, by rw [q2, decide_eq_false e]⟩)
    clear h3
    go_enter Tryz.func182, Tryz.ntmps182
    go_wp2_with fail
    refine hC.mono ?_
    rintro e w1 ⟨rfl, hf, hbg⟩
    obtain ⟨W2, hW2⟩ : ∃ W, W = w1.alloc (.cells R 63) := ⟨_, rfl⟩
    obtain ⟨p, hp⟩ : ∃ p, p = w1.heap.size := ⟨_, rfl⟩
    have hb2 : Below w1.heap.size w1 W2 := by rw [hW2]; exact below_alloc _ _
    have HQ : Hid (Fs W2 B F (m + 3000) ∧ BG B w W2) := ⟨hf.below hb2, hbg.trans (bg_of hb2)⟩
    have c0 : W2.cell? ⟨p, 0, none⟩ = some (.int .i64 kd) := by
      have : W2.heap[p]? = some (.cells R 63) := by rw [hp, hW2]; exact heap_alloc_new _ _
      rw [cell_of_heap this, HRq.out, irow_get _ _ (by rw [HRl.out]; omega), HK.out]
    have HW2 : Hid (W2 = w1.alloc (.cells R 63)) := hW2
    have Hp : Hid (p = w1.heap.size) := hp
    clear hC hf hbg hW2 hp hb2
    rcases h3' with ⟨rfl, rfl⟩ | ⟨rfl, rfl, rfl⟩ | ⟨rfl, hk, rfl⟩
    all_goals
      go_wp2_with (first
        | (refine wpList_store_row rfl 63 _ _ rfl w1.heap.size R rfl rfl 63 zi (heap_alloc_new _ _) (by rw [HRs.out]; exact inoSize) (by rw [HRs.out]; rfl) HRo.out ?_; rw [setRow_alloc_new, ← HW2.out, ← Hp.out])
        | fail)
      go_ret
      exact ⟨rfl, HQ.out⟩
  cases hi : isI i with
  | false =>
    refine key 101 false ?_ ?_ (Or.inl ⟨rfl, rfl⟩)
    · unfold gtR; rw [hi]; rfl
    · unfold isD; rw [hi]; rfl
  | true =>
    refine key 0 (isD F i) ?_ rfl (Or.inr ⟨rfl, ?_⟩)
    · unfold gtR; rw [hi]; rfl
    · unfold isD gtX
      rw [hi]
      rfl
theorem dir_text (hF : FInv F) {i : Nat} (hi : i < 32) {l : List Ent} (h : DirAt F i l) : rdT F (i : Int) 0 192 = encsE l ∧ rdR (i : Int) 0 192 = 0 := by
  unfold rdT rdR
  rw [if_pos ⟨isI_nat hi, by omega, by omega⟩, if_pos ⟨isI_nat hi, by omega, by omega⟩]
  refine ⟨?_, rfl⟩
  show cutB (F.ino i).txt 0 192 = _
  have := hF.max i hi
  unfold cutB
  rw [List.drop_zero, List.take_of_length_le this, h.byts]
/-- What entries answers. -/
def enR (F : FS) (i : Int) : Int := if isD F i = true then 0 else 20
end
/-- An entry's bytes at the head of those that are left. -/
structure Head (D D' : List UInt8) (e : Ent) : Prop where
  len : 9 ≤ D.length
  name : D.take 8 = e.name ++ List.replicate (8 - e.name.length) 0
  to : (nums D).getD 8 0 = (e.to : Int)
  rest : D.drop 9 = D'
theorem head_of {l : List Ent} (h : ∀ e ∈ l, EntOk e) {k : Nat} {e : Ent} (he : l[k]? = some e) : Head (encsE (l.drop k)) (encsE (l.drop (k + 1))) e := by
  have hk := (List.getElem?_eq_some_iff.1 he).1
  have hd : l.drop k = e :: l.drop (k + 1) := by
    rw [List.drop_eq_getElem_cons hk]
    congr 1
    exact (List.getElem?_eq_some_iff.1 he).2
  have hok := h e (List.mem_of_getElem? he)
  have h9 := encE_len hok
  have hm := hok.max
  have e1 : encsE (l.drop k) = encE e ++ encsE (l.drop (k + 1)) := by rw [hd]; rfl
  rw [e1]
  refine ⟨by rw [List.length_append]; omega, ?_, ?_, ?_⟩
  · rw [List.take_append_of_le_length (by omega)]
    unfold encE
    rw [List.take_append_of_le_length (by simp; omega), List.take_of_length_le (by simp; omega)]
  · rw [nums_at _ 8 (by rw [List.length_append]; omega)]
    have := take_to hok (encsE (l.drop (k + 1)))
    rw [List.getD_eq_getElem?_getD, List.getElem?_eq_getElem (by rw [List.length_append]; omega)] at this
    simp only [Option.getD_some] at this
    rw [this]
  · rw [List.drop_append_of_le_length (by omega), List.drop_of_length_le (by omega), List.nil_append]
section
variable {w w' : World} {m : Nat} {B : Sto} {F : FS}
set_option maxHeartbeats 4000000 in
set_option maxRecDepth 100000 in
theorem entries_at (h : Fs w B F m) (hA : AllD F) (hm : m ≤ 800000000000) (i : Int) :
    Calls Tryz.prog 154 #[sto B, .int .i64 i] w fun e w' => ∃ v, e = .returned (.tuple #[v, .int .i64 (enR F i)]) ∧ Et w' w.heap.size v (dirL F i) ∧ Fs w' B F (m + 6000) ∧ BG B w w' := by
  have hD := isDir_at h hm i
  cases hd : isD F i with
  | false =>
    rw [hd] at hD
    have HR : Hid (enR F i = 20 ∧ dirL F i = []) := by unfold enR dirL; rw [hd]; exact ⟨rfl, rfl⟩
    clear h hd
    go_enter Tryz.func154, Tryz.ntmps154
    go_wp2_with fail
    refine hD.mono ?_
    rintro e w1 ⟨rfl, hf, hbg⟩
    have HQ : Hid (Fs w1 B F (m + 6000) ∧ BG B w w1) := ⟨hf.mono (by omega), hbg⟩
    clear hD hf hbg
    go_wp2
    go_ret2
    exact ⟨_, by rw [HR.out.1]; rfl, by rw [HR.out.2]; exact ⟨none, 0, rfl, Nat.le_refl _, fun q => absurd rfl q⟩, HQ.out⟩
  | true =>
    rw [hd] at hD
    obtain ⟨k, rfl, hk, hkk⟩ := isD_nat hd
    obtain ⟨l, hl⟩ := hA k hk hkk
    obtain ⟨ht1, ht2⟩ := dir_text h.inv hk hl
    have HR : Hid (enR F (k : Int) = 0 ∧ dirL F (k : Int) = l) := ⟨by unfold enR; rw [hd]; rfl, hl.list hk⟩
    have HO : Hid (∀ e ∈ l, EntOk e) := hl.ok
    have hmost := hl.most
    obtain ⟨i0, hi0, hzz⟩ := Option.map_eq_some_iff.1 entInfo
    simp only [Prod.mk.injEq] at hzz
    obtain ⟨hz0, hz1, hz2⟩ := hzz
    clear h hd hl
    go_enter Tryz.func154, Tryz.ntmps154
    go_wp2_with fail
    refine hD.mono ?_
    rintro e w1 ⟨rfl, hf, hbg⟩
    have hRd := read_all hf (by omega) (k : Int) 0 192 (by omega) (by omega)
    rw [ht1, ht2] at hRd
    have HB1 : Hid (BG B w w1) := hbg
    clear hD hf hbg ht1 ht2
    obtain ⟨D0, hD0⟩ : ∃ D, D = encsE l := ⟨_, rfl⟩
    have HD0 : Hid (D0 = encsE (l.drop 0)) := hD0
    rw [← hD0] at hRd
    clear hD0
    go_wp2_with fail
    refine hRd.mono ?_
    rintro e w2 ⟨rfl, hf, hbg⟩
    have HQ : Hid (Fs w2 B F (m + 6000) ∧ BG B w w2) := ⟨hf.mono (by omega), HB1.out.trans hbg⟩
    clear hRd hf hbg HB1
    go_wp2
    go_loopw [6, 8] (fun s6 s8 wr => ∃ (j : Nat) (D : List UInt8) (v : Value), s6 = tx D ∧ v = s8 ∧ j ≤ l.length ∧ Hid (D = encsE (l.drop j)) ∧ Hid (D.length = 9 * (l.length - j)) ∧ Hid (OwE wr w2.heap.size v (l.take j) ∧ Below w2.heap.size w2 wr)) (fun s6 _ _ => (match s6 with | .string b => b.size | _ => 0))
    case atStart =>
      refine ⟨0, D0, _, rfl, rfl, by omega, HD0, ?_, World.ownsRow_nil _ _ _ _, Below.refl _ _⟩
      show _ = _
      rw [HD0.out, encsE_len (fun e he => HO.out e (List.mem_of_mem_drop he)), List.length_drop]
    case round =>
      obtain ⟨j, D, v, rfl, rfl, hj, HD, HDl, HS⟩ := hrel
      clear HD0
      by_cases hlt : j < l.length
      · obtain ⟨e, he⟩ : ∃ e, l[j]? = some e := ⟨l[j], List.getElem?_eq_getElem hlt⟩
        have hH := head_of HO.out he
        rw [← HD.out] at hH
        have hok := HO.out e (List.mem_of_getElem? he)
        obtain ⟨D', hD'⟩ : ∃ D', D' = encsE (l.drop (j + 1)) := ⟨_, rfl⟩
        rw [← hD'] at hH
        have HD' : Hid (D' = encsE (l.drop (j + 1))) := hD'
        have HDl' : Hid (D'.length = 9 * (l.length - (j + 1))) := by
          show _ = _
          rw [hD', encsE_len (fun e he => HO.out e (List.mem_of_mem_drop he)), List.length_drop]
        have hc8 := tx_to D 8 (by have := hH.len; omega)
        rw [hH.name] at hc8
        have hc9 := tx_from D 9 hH.len
        rw [hH.rest] at hc9
        have hix := tx_index D 8 (by have := hH.len; omega)
        rw [hH.to] at hix
        have hlen : (9 : Int) ≤ (D.length : Int) := by have := hH.len; omega
        have hTr := trim_at e.name (8 - e.name.length) hok.nz (by have := hok.max; omega) wr
        obtain ⟨N8, hN8⟩ : ∃ N, N = e.name ++ List.replicate (8 - e.name.length) (0 : UInt8) := ⟨_, rfl⟩
        rw [← hN8] at hc8 hTr
        have hw8 : IntKind.i64.wrap (e.to : Int) = (e.to : Int) := by have := hok.to; simp [IntKind.wrap, IntKind.bits, IntKind.signed]; omega
        have HK : Hid (l.take (j + 1) = l.take j ++ [e]) := by show _ = _; rw [List.take_add_one, he]; rfl
        have HDd : Hid (D'.length + 9 = D.length) := by have := HDl.out; have := HDl'.out; show _ = _; omega
        have HS' : Hid (wr.ownsRow w2.heap.size 219 2 v (l.take j).length (cellsE (l.take j)) ∧ Below w2.heap.size w2 wr) := HS.out
        have hln : (l.take j).length = j := by rw [List.length_take]; omega
        have Hln : Hid ((l.take j).length = j) := hln
        simp only [Int.cast_ofNat_Int] at hc8 hc9 hix
        clear hH hN8 he hD' hok hln
        go_wp2_with fail
        refine hTr.mono ?_
        rintro x w3 ⟨rfl, hw⟩
        rw [hw]
        clear hw w3 hTr
        go_wp2_with (at_builtin; refine wpList_append_own _ rfl _ _ 215 rfl w2.heap.size 219 i0 (.agg #[.string ⟨#[]⟩, .int .i64 0]) 2 24 Tryz.underlying215 hi0 hz0 hz1 hz2 rfl (by decide) _ _ _ rfl (HS'.out.1.alloc _) ⟨wr.heap.size, 0, none⟩ 1 1 [tx e.name, .int .i64 (e.to : Int)] rfl rfl ?c1 ?c2 ?c3 ?c4 ?c5 ?_)
        case c1 => exact World.news_of_block (cs := #[tx e.name, .int .i64 (e.to : Int)]) (t := 219) (fr := (0, 0)) (heap_alloc_new _ _)
        case c2 =>
          intro u hu
          simp at hu
          rcases hu with rfl | rfl <;> rfl
        case c3 => rw [Hln.out]; unfold maxLen; omega
        case c4 => rw [Hln.out]; omega
        case c5 => have := HS'.out.2.size; simp; omega
        intro v' w4 hown' hgrow _
        have HS4 : Hid (OwE w4 w2.heap.size v' (l.take (j + 1)) ∧ Below w2.heap.size w2 w4) := by
          refine ⟨?_, ?_⟩
          · show w4.ownsRow _ _ _ _ _ _
            rw [HK.out, cellsE_app, List.length_append, Hln.out]
            exact hown'
          · exact (HS'.out.2.trans ((below_alloc wr _).mono HS'.out.2.size)).grown hgrow (by have := HS'.out.2.size; simp; omega) (fun k hk => (HS'.out.1.lt k hk).1)
        clear hown' hgrow HS HS'
        go_wp2
        go_roundw
        case rel => exact ⟨j + 1, D', _, rfl, rfl, by omega, HD', HDl', HS4⟩
        case measure =>
          have := HDd.out
          show (ByteArray.mk D'.toArray).size < (ByteArray.mk D.toArray).size
          rw [bytes_size', bytes_size']
          omega
      · have hD0 : D = [] := List.length_eq_zero_iff.1 (by have := HDl.out; omega)
        subst hD0
        have HE : Hid (Et wr w2.heap.size v l ∧ Below w2.heap.size w2 wr) := by
          have := HS.out
          rw [List.take_of_length_le (by omega)] at this
          exact ⟨OwE.et this.1, this.2⟩
        clear HS HD HDl
        go_wp2
        go_ret2
        refine ⟨_, by rw [HR.out.1]; rfl, ?_, HQ.out.1.below HE.out.2, HQ.out.2.trans (bg_of HE.out.2)⟩
        rw [HR.out.2]
        exact HE.out.1.mono HQ.out.2.size
end
end Go.Proofs.YtcjpahnlckfgoaaGreatDoor
