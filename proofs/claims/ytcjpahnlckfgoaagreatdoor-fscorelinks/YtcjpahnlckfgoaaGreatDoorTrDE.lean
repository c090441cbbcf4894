/- Package fscore over a store: into. -/
/- Package fscore: Tree. -/
import Derived.Test.YtcjpahnlckfgoaaGreatDoorTrBC
import Derived.Test.YtcjpahnlckfgoaaGreatDoorFsHI
import Derived.Deep.WholeRow
namespace Go.Proofs.YtcjpahnlckfgoaaGreatDoor
open Go.RowKit
set_option linter.unusedVariables false

section
variable {base L k : Nat} {B : Sto} {F : FS}
theorem add_at (hIn : IntoOk F B base L k) (hL : L < base) {sn sn' : Nat → Bool} {i : Nat} {q : List UInt8} {nodes : List Nd} (hA : addN (intoN k F) F sn i q = some (nodes, sn')) (hi : i < 32) (hq : q.length + 9 * k ≤ 1000) {w : World} {m : Nat} {v : Value} {acc : List Nd} (h : Fs w B F m) (hK : LookAt w base L B sn v acc) (hbs : base ≤ w.heap.size) (hac : acc.length + nodes.length ≤ 5000) (hm : m + 12000 * nodes.length + 6000 ≤ 700000000000) :
    Calls Tryz.prog 99 #[ptr L, .int .i64 (i : Int), tx q] w (Tell F B base L w m sn' acc nodes) := by
  cases hd : isD F (i : Int) with
  | false => exact add_file hL hA hi hq hd h hK hbs hac hm
  | true => exact add_dir hIn hL hA hi hq hd h hK hbs hac hm
theorem adds_app (f : (Nat → Bool) → Nat → List UInt8 → Seen) (p : List UInt8) : ∀ {sn : Nat → Bool} {e : List UInt8 × Nat} {l : List (List UInt8 × Nat)} {nodes : List Nd} {sn' : Nat → Bool}, addsN f F p sn (e :: l) = some (nodes, sn') → ∃ n1 s1 n2, addN f F sn e.2 (p ++ 47 :: e.1) = some (n1, s1) ∧ addsN f F p s1 l = some (n2, sn') ∧ nodes = n1 ++ n2 := by
  intro sn e l nodes sn' h
  unfold addsN at h
  obtain ⟨r, hr, h2⟩ := Option.bind_eq_some_iff.1 h
  obtain ⟨s, hs, he⟩ := Option.map_eq_some_iff.1 h2
  simp only [Prod.mk.injEq] at he
  exact ⟨r.1, r.2, s.1, hr, by rw [hs, ← he.2], he.1.symm⟩
theorem srt_mem {l : List Ent} {e : List UInt8 × Nat} (h : e ∈ srt (prs l)) : ∃ x ∈ l, e = (x.name, x.to) := by
  have := (srt_facts (prs l)).2.1.mem_iff.1 h
  obtain ⟨x, hx, rfl⟩ := List.mem_map.1 this
  exact ⟨x, hx, rfl⟩
set_option maxHeartbeats 4000000 in
set_option maxRecDepth 100000 in
theorem into_step (hA : AllD F) (hsz : ∀ i : Int, (dirL F i).length < 20) (hL : L < base) (hIn : IntoOk F B base L k) : IntoOk F B base L (k + 1) := by
  intro sn i p nodes sn' hN hi hp w m v acc h hK hbs hac hm
  have hok : ∀ e ∈ dirL F (i : Int), e.to < 32 ∧ e.name.length ≤ 8 := by
    intro e he
    cases hd : isD F (i : Int) with
    | false =>
      have e0 : dirL F (i : Int) = [] := by unfold dirL; rw [hd]; rfl
      rw [e0] at he
      cases he
    | true =>
      obtain ⟨j, hj, hj2, hjk⟩ := isD_nat hd
      obtain ⟨l, hl⟩ := hA j hj2 hjk
      rw [hj, hl.list hj2] at he
      exact ⟨(hl.ok e he).to, (hl.ok e he).max⟩
  obtain ⟨sl, hsl⟩ : ∃ sl, sl = srt (prs (dirL F (i : Int))) := ⟨_, rfl⟩
  have hN' : addsN (intoN k F) F p (snU sn i) sl = some (nodes, sn') := by rw [hsl]; exact hN
  have HOk : Hid (∀ e ∈ sl, e.2 < 32 ∧ e.1.length ≤ 8) := fun e he => by
    rw [hsl] at he
    obtain ⟨x, hx, rfl⟩ := srt_mem he
    exact hok x hx
  have HN : Hid (addsN (intoN k F) F p (snU sn i) sl = some (nodes, sn')) := hN'
  have HIn : Hid (IntoOk F B base L k) := hIn
  have hsee := hK.see hi
  have cs := hK.cs hi
  have fz := hK.fz (1 + i)
  obtain ⟨W1, hW1⟩ : ∃ W, W = w.setCell ⟨L, 1 + i, none⟩ (.bool true) := ⟨_, rfl⟩
  rw [← hW1] at hsee
  have hu1 : Upd L w W1 := by rw [hW1]; exact Upd.setCell _ _ _ _
  have hf1 : Fs W1 B F m := h.keep (fun k hk => hu1.block k hk.lt (fun e => not_isSt hK.head (by decide) (by rw [← e]; exact hk)))
  have c1 : (w.setCell ⟨L, 1 + i, none⟩ (.bool true)).cell? ⟨L, 0, none⟩ = some (sto B) := by rw [← hW1]; exact hsee.c0
  have hLi := List_at hf1 hA (by omega) (i : Int)
  have HK1 : Hid (LookAt W1 base L B (snU sn i) v acc) := hsee
  have HU1 : Hid (LU B base L w W1 ∧ Kp w W1) := ⟨SU.of_upd hu1 (Or.inl rfl), Kp.of_upd hu1 hK.head (by decide)⟩
  have hs1 : base ≤ W1.heap.size := Nat.le_trans hbs hu1.size
  have HW1 : Hid _ := hW1
  have HSz : Hid ((dirL F (i : Int)).length < 20) := hsz _
  have HSl : Hid (sl = srt (prs (dirL F (i : Int)))) := hsl
  have hii : (i : Int) < 32 := by omega
  generalize sn i = si at *
  clear h hK hok hsl hN' hN hIn hsee hW1 hu1 hf1 hsz
  go_enter Tryz.func45, Tryz.ntmps45
  go_wp2_with fail
  rw [← HW1.out]
  refine hLi.mono ?_
  rintro e w2 ⟨vv, uu, rfl, hT, hNs, hf2, hbg2⟩
  have hSo := sorted_at (dirL F (i : Int)) hT hNs HSz.out
  rw [← HSl.out] at hSo
  obtain ⟨a1, c1', rfl, -⟩ := hT.form
  obtain ⟨a2, c2', rfl, -⟩ := hNs.form
  have HK2 : Hid (LookAt w2 base L B (snU sn i) v acc) := HK1.out.st hbg2
  have HU2 : Hid (LU B base L w w2 ∧ Kp w w2) := ⟨SU.trans HU1.out.1 (SU.any hbg2), HU1.out.2.trans (Kp.of_st hbg2)⟩
  have HF2 : Hid (Fs w2 B F (m + 6000)) := hf2
  have hs2 : base ≤ w2.heap.size := Nat.le_trans hs1 hbg2.size
  simp only [List.length_map] at hSo ⊢
  obtain ⟨dn, hdn⟩ : ∃ n, n = (dirL F (i : Int)).length := ⟨_, rfl⟩
  rw [← hdn] at hSo ⊢
  clear hLi hT hNs hf2 hbg2 c1 cs fz HK1 hdn
  go_wp2_with fail
  refine hSo.mono ?_
  rintro e w3 ⟨r, rfl, hE, hb3⟩
  have HK3 : Hid (LookAt w3 base L B (snU sn i) v acc) := HK2.out.below hb3
  have HU3 : Hid (LU B base L w w3 ∧ Kp w w3) := ⟨SU.trans HU2.out.1 (SU.of_below hb3), HU2.out.2.trans (Kp.of_below hb3)⟩
  have HF3 : Hid (Fs w3 B F (m + 6000)) := HF2.out.below hb3
  have hs3 : base ≤ w3.heap.size := Nat.le_trans hs2 hb3.size
  have HE : Hid (Es2 w3 w2.heap.size r sl) := hE
  obtain ⟨N, hNl⟩ : ∃ N, N = sl.length := ⟨_, rfl⟩
  have HNl : Hid (N = sl.length) := hNl
  have hN20 : N < 20 := by
    have h1 := (srt_facts (prs (dirL F (i : Int)))).2.1.length_eq
    rw [← HSl.out, ← hNl] at h1
    have h2 := HSz.out
    simp only [prs, List.length_map] at h1
    omega
  have hform : ∃ a c, r = .slice a N c := by
    rcases hE with ⟨e1, e2⟩ | ⟨e1, g, c, e2, _⟩
    · exact ⟨none, 0, by rw [e2, hNl, e1]; rfl⟩
    · exact ⟨_, c, by rw [e2, hNl]⟩
  obtain ⟨ra, rc, rfl⟩ := hform
  have HL : Hid (∀ j, j < N → ∃ g e, ra = some ⟨g, 0, none⟩ ∧ sl[j]? = some e ∧ w2.heap.size ≤ g ∧ (∃ cur, w3.heap[g]? = some (.cells cur 157 (0, 0))) ∧ w3.cell? ⟨g, 2 * j, none⟩ = some (tx e.1) ∧ w3.cell? ⟨g, 2 * j + 1, none⟩ = some (.int .i64 (e.2 : Int))) := fun j hj => by
    rcases HE.out with ⟨e1, e2⟩ | ⟨e1, g, c, e2, hg, hef⟩
    · rw [HNl.out, e1] at hj; simp at hj
    · have hj' : j < sl.length := by rw [← HNl.out]; exact hj
      have hc := hef.at (List.getElem?_eq_getElem hj')
      simp only [Value.slice.injEq] at e2
      obtain ⟨_, cur, hcur⟩ := hef
      exact ⟨g, sl[j], e2.1, List.getElem?_eq_getElem hj', hg, ⟨cur, hcur⟩, hc.1, hc.2⟩
  clear hSo hE hb3 hNl HK2 HF2 HU2
  go_wp2
  go_loopw [23] (fun s wr => ∃ (j : Nat) (sj : Nat → Bool) (vj : Value) (n1 n2 : List Nd), j ≤ N ∧ s = .int .i64 j ∧ Hid (addsN (intoN k F) F p sj (sl.drop j) = some (n2, sn')) ∧ Hid (nodes = n1 ++ n2) ∧ Hid (Fs wr B F (m + 6000 + 12000 * n1.length)) ∧ Hid (LookAt wr base L B sj vj (acc ++ n1)) ∧ Hid (LU B base L w wr ∧ Kp w wr) ∧ Hid (w3.heap.size ≤ wr.heap.size ∧ Kp w3 wr)) (fun s _ => N - (RowKit.intOf s).toNat)
  case atStart => exact ⟨0, snU sn i, v, [], nodes, by omega, rfl, HN, rfl, HF3, by rw [List.append_nil]; exact HK3.out, HU3, Nat.le_refl _, Kp.refl _⟩
  case round =>
    obtain ⟨j, sj, vj, n1, n2, hj, rfl, HA, HNd, HFj, HKj, HUj, HBj⟩ := hrel
    by_cases hlt : j < N
    · have hjl : (j : Int) < (N : Int) := by omega
      obtain ⟨g, e, rfl, he, hg, ⟨cur, hcur⟩, d1, d2⟩ := HL.out j hlt
      have hcur' := HBj.out.2 g cur _ hcur
      have hd1 : wr.cell? ⟨g, j * 2, none⟩ = some (tx e.1) := by rw [Nat.mul_comm j 2, cell_of_heap hcur', ← cell_of_heap hcur]; exact d1
      have hd2 : wr.cell? ⟨g, j * 2 + 1, none⟩ = some (.int .i64 (e.2 : Int)) := by rw [Nat.mul_comm j 2, cell_of_heap hcur', ← cell_of_heap hcur]; exact d2
      have hmem := List.mem_of_getElem? he
      have hdrop : sl.drop j = e :: sl.drop (j + 1) := by
        have hj' := (List.getElem?_eq_some_iff.1 he).1
        rw [List.drop_eq_getElem_cons hj']
        congr 1
        exact (List.getElem?_eq_some_iff.1 he).2
      have hAd := HA.out
      rw [hdrop] at hAd
      obtain ⟨m1, s1, m2, ha1, ha2, ha3⟩ := adds_app _ _ hAd
      have hnd := HNd.out
      rw [ha3] at hnd
      have hlen : nodes.length = n1.length + (m1.length + m2.length) := by rw [hnd]; simp
      have hok := HOk.out e hmem
      obtain ⟨W4, hW4⟩ : ∃ W, W = wr.alloc (.cells #[.string (ByteArray.mk e.1.toArray), .int .i64 (e.2 : Int)] 157) := ⟨_, rfl⟩
      have hb4 : Below wr.heap.size wr W4 := by rw [hW4]; exact below_alloc _ _
      have hCall := add_at HIn.out hL ha1 hok.1 (by simp; omega) (HFj.out.below hb4) (HKj.out.below hb4) (by have := hb4.size; have := HBj.out.1; omega) (by simp; omega) (by omega)
      have HW4 : Hid _ := hW4
      have HB4 : Hid (Below wr.heap.size wr W4) := hb4
      have HNx : Hid (addsN (intoN k F) F p s1 (sl.drop (j + 1)) = some (m2, sn') ∧ nodes = (n1 ++ m1) ++ m2) := ⟨ha2, by rw [hnd, List.append_assoc]⟩
      obtain ⟨nm, hnm⟩ : ∃ nm, nm = e.1 := ⟨_, rfl⟩
      obtain ⟨et, het⟩ : ∃ t, t = e.2 := ⟨_, rfl⟩
      rw [← hnm, ← het] at hCall HW4
      rw [← hnm] at hd1
      rw [← het] at hd2
      have HPl : Hid (p.length + 10 ≤ 2000 ∧ nm.length ≤ 8) := by rw [hnm]; exact ⟨by omega, hok.2⟩
      obtain ⟨P1, hP1⟩ : ∃ P1, P1 = p ++ [47] := ⟨_, rfl⟩
      obtain ⟨P2, hP2⟩ : ∃ P2, P2 = p ++ 47 :: nm := ⟨_, rfl⟩
      have hgl1 : ByteArray.mk p.toArray ++ ByteArray.mk #[47] = ByteArray.mk P1.toArray := by rw [hP1]; exact text_glue p [47]
      have hgl2 : ByteArray.mk P1.toArray ++ ByteArray.mk nm.toArray = ByteArray.mk P2.toArray := by rw [hP1, hP2, show p ++ 47 :: nm = (p ++ [47]) ++ nm from by simp]; exact text_glue _ _
      rw [← hP2] at hCall
      have hno1 : ¬ 9223372036854775807 < p.length + 1 := by omega
      have hno2 : ¬ 9223372036854775807 < P1.length + nm.length := by
        have h1 : P1.length = p.length + 1 := by rw [hP1]; simp
        have := HPl.out.2
        omega
      clear he hg hcur hcur' d1 d2 hmem hdrop hAd ha1 ha2 ha3 hnd hlen hok hW4 hb4 hnm het hP1 hP2 HA HNd HFj HKj HL
      go_wp2_with fail
      rw [← HW4.out]
      refine hCall.mono ?_
      rintro e5 w5 ⟨rfl, v5, hf5, hk5, hu5, hp5⟩
      have HF5 : Hid (Fs w5 B F (m + 6000 + 12000 * (n1 ++ m1).length)) := by
        show Fs _ _ _ _
        rw [show m + 6000 + 12000 * (n1 ++ m1).length = m + 6000 + 12000 * n1.length + 12000 * m1.length from by rw [List.length_append]; omega]
        exact hf5
      have HK5 : Hid (LookAt w5 base L B s1 v5 (acc ++ (n1 ++ m1))) := by
        show LookAt _ _ _ _ _ _ _
        rw [← List.append_assoc]
        exact hk5
      have HU5 : Hid (LU B base L w w5 ∧ Kp w w5) := ⟨SU.trans HUj.out.1 (SU.trans (SU.of_below HB4.out) hu5), HUj.out.2.trans ((Kp.of_below HB4.out).trans hp5)⟩
      have HB5 : Hid (w3.heap.size ≤ w5.heap.size ∧ Kp w3 w5) := ⟨Nat.le_trans HBj.out.1 (Nat.le_trans HB4.out.size hu5.size), HBj.out.2.trans ((Kp.of_below HB4.out).trans hp5)⟩
      clear hf5 hk5 hu5 hp5 hCall hgl1 hgl2 HW4 HB4 hd1 hd2 HBj HUj
      go_wp2
      go_roundw
      case rel => exact ⟨j + 1, s1, v5, n1 ++ m1, m2, by omega, by go_num, HNx.out.1, HNx.out.2, HF5, HK5, HU5, HB5⟩
      case measure => simp [RowKit.intOf]; omega
    · have hjN : j = N := by omega
      have hjl : ¬ (j : Int) < (N : Int) := by omega
      have hend := HA.out
      rw [List.drop_of_length_le (by rw [← HNl.out]; omega)] at hend
      unfold addsN at hend
      simp only [Option.some.injEq, Prod.mk.injEq] at hend
      obtain ⟨e1, e2⟩ := hend
      have hnd := HNd.out
      rw [← e1, List.append_nil] at hnd
      have HFin : Hid (∃ v', Fs wr B F (m + 12000 * nodes.length + 6000) ∧ LookAt wr base L B sn' v' (acc ++ nodes) ∧ LU B base L w wr ∧ Kp w wr) := by
        refine ⟨vj, ?_, ?_, HUj.out.1, HUj.out.2⟩
        · have := HFj.out
          rw [show m + 12000 * nodes.length + 6000 = m + 6000 + 12000 * n1.length from by rw [hnd]; omega]
          exact this
        · have := HKj.out
          rw [hnd, ← e2]
          exact this
      clear e1 e2 hnd hjN HA HNd HFj HKj HUj HBj HL
      go_wp2
      go_end0
      obtain ⟨v', q1, q2, q3, q4⟩ := HFin.out
      exact ⟨rfl, q1, ⟨v', q2⟩, q3, q4⟩
theorem into_at (hA : AllD F) (hsz : ∀ i : Int, (dirL F i).length < 20) (hL : L < base) : ∀ k, IntoOk F B base L k
  | 0 => fun _ _ _ _ _ h => by cases h
  | k + 1 => into_step hA hsz hL (into_at hA hsz hL k)
end
end Go.Proofs.YtcjpahnlckfgoaaGreatDoor

namespace Go.Proofs.YtcjpahnlckfgoaaGreatDoor
open Go.RowKit
set_option linter.unusedVariables false

/-- A look at the outset. -/
def lk0 : Array Value := #[.nilIface, .bool false, .bool false, .bool false, .bool false, .bool false, .bool false, .bool false, .bool false, .bool false, .bool false, .bool false, .bool false, .bool false, .bool false, .bool false, .bool false, .bool false, .bool false, .bool false, .bool false, .bool false, .bool false, .bool false, .bool false, .bool false, .bool false, .bool false, .bool false, .bool false, .bool false, .bool false, .bool false, .slice none 0 0]
theorem lit_lk : (#[.nilIface, .bool false, .bool false, .bool false, .bool false, .bool false, .bool false, .bool false, .bool false, .bool false, .bool false, .bool false, .bool false, .bool false, .bool false, .bool false, .bool false, .bool false, .bool false, .bool false, .bool false, .bool false, .bool false, .bool false, .bool false, .bool false, .bool false, .bool false, .bool false, .bool false, .bool false, .bool false, .bool false, .slice none 0 0] : Array Value) = lk0 := rfl
theorem lk0_list : lk0 = (.nilIface :: (snB (fun _ => false) ++ [.slice none 0 0])).toArray := by unfold lk0 snB; simp [List.range_succ]
theorem lk0_put (B : Sto) : lk0.setIfInBounds 0 (sto B) = lkRow B (fun _ => false) (.slice none 0 0) := by
  rw [lk0_list]
  unfold lkRow
  apply Array.ext'
  rw [Array.toList_setIfInBounds]
  rfl
section
variable {w : World} {m base L : Nat} {S : Sto} {F : FS}
set_option maxHeartbeats 1000000 in
set_option maxRecDepth 100000 in
theorem tree1_at (h : Fs w S F m) (hA : AllD F) (hsz : ∀ i : Int, (dirL F i).length < 20) (k : Nat) (hk : 9 * k ≤ 1000) {nodes : List Nd} {sn' : Nat → Bool} (hN : intoN k F (fun _ => false) 0 [] = some (nodes, sn')) (hnl : nodes.length ≤ 5000) (hm : m ≤ 600000000000) (hL : L < base) (hb : base ≤ w.heap.size) (h1 : w.heap[L]? = some (.cells lk0 89)) :
    Calls Tryz.prog 44 #[sto S, ptr L] w fun e w' => e = .returned (.tuple #[]) ∧ ∃ v', Fs w' S F (m + 61000000) ∧ LookAt w' base L S sn' v' nodes ∧ LU S base L w w' := by
  obtain ⟨W1, hW1⟩ : ∃ W, W = w.setCell ⟨L, 0, none⟩ (sto S) := ⟨_, rfl⟩
  have hr1 : W1.heap[L]? = some (.cells (lkRow S (fun _ => false) (.slice none 0 0)) 89) := by rw [hW1, setCell_eq_setRow w L 0 _ _ _ _ h1, setRow_heap w L _ _ _ _ h1, lk0_put]
  have hu1 : Upd L w W1 := by rw [hW1]; exact Upd.setCell _ _ _ _
  have hf1 : Fs W1 S F m := h.keep (fun k hk => hu1.block k hk.lt (fun e => not_isSt h1 (by decide) (by rw [← e]; exact hk)))
  have hK : LookAt W1 base L S (fun _ => false) (.slice none 0 0) [] := ⟨hr1, World.ownsRow_nil _ _ _ _⟩
  have hC := into_at hA hsz hL k (fun _ => false) 0 [] nodes sn' hN (by omega) (by simpa using hk) W1 m (.slice none 0 0) [] hf1 hK (Nat.le_trans hb hu1.size) (by simpa using hnl) (by omega)
  have c0 : w.cell? ⟨L, 0, none⟩ = some .nilIface := by rw [cell_of_heap h1]; rfl
  have f0 : w.frozen? ⟨L, 0, none⟩ = false := frozen_of_heap h1
  have HU : Hid (LU S base L w W1) := SU.of_upd hu1 (Or.inl rfl)
  have HW1 : Hid _ := hW1
  have Hnl : Hid (nodes.length ≤ 5000) := hnl
  clear h hA hsz hN hr1 hu1 hf1 hK hW1 h1 hnl
  go_enter Tryz.func44, Tryz.ntmps44
  go_wp2_with fail
  rw [← HW1.out]
  refine hC.mono ?_
  rintro e w2 ⟨rfl, v', hf, hk2, hu, -⟩
  have HE : Hid (∃ v', Fs w2 S F (m + 61000000) ∧ LookAt w2 base L S sn' v' nodes ∧ LU S base L w w2) := ⟨v', hf.mono (by have := Hnl.out; omega), by simpa using hk2, SU.trans HU.out hu⟩
  clear hC hf hk2 hu
  go_wp2
  go_end0
  exact ⟨rfl, HE.out⟩
end
theorem treen_call (args : Array Value) (W : World) : (callFunc 44 args).run Tryz.prog W = .ok (.enter 44 args) W := by kernel_rfl
theorem look_built : Tryz.prog.built 89 [] = some lk0 := by kernel_rfl
theorem lk0_size : lk0.size = 34 := rfl
theorem lk0_one : lk0.all (·.oneCell') = true := by kernel_rfl
theorem lookSize : (Tryz.prog.info? 89).map (·.size) = some 34 := by kernel_rfl
theorem LookAt.lower {w : World} {base b0 L : Nat} {S : Sto} {sn : Nat → Bool} {v : Value} {acc : List Nd} (h : LookAt w base L S sn v acc) (hb : b0 ≤ base) : LookAt w b0 L S sn v acc := by
  refine ⟨h.head, h.own.1, ?_⟩
  rcases h.own.2 with q | ⟨g, cap, cur, e1, e2, r⟩
  · exact Or.inl q
  · exact Or.inr ⟨g, cap, cur, e1, Nat.le_trans hb e2, r⟩
section
variable {w : World} {m lo B G : Nat} {F : FS}
set_option maxHeartbeats 1000000 in
set_option maxRecDepth 100000 in
theorem Tree_at (h : Fs w (dsk lo B G) F m) (hA : AllD F) (hsz : ∀ i : Int, (dirL F i).length < 20) (k : Nat) (hk : 9 * k ≤ 1000) {nodes : List Nd} {sn' : Nat → Bool} (hN : intoN k F (fun _ => false) 0 [] = some (nodes, sn')) (hnl : nodes.length ≤ 5000) (hm : m ≤ 600000000000) :
    Calls Tryz.prog 13 #[sto (dsk lo B G)] w fun e w' => ∃ v, e = .returned v ∧ OwD w' w.heap.size v nodes ∧ Fs w' (dsk lo B G) F (m + 62000000) ∧ ST lo w w' := by
  have hmf : ∀ (fn : Fn) (first cap : Array Value) (w : World), (Instr.makeFunc fn first cap).run Tryz.prog w = .ok (.func fn first cap) w := fun _ _ _ _ => rfl
  obtain ⟨W1, hW1⟩ : ∃ W, W = w.alloc (.cells lk0 89) := ⟨_, rfl⟩
  have hb1 : Below w.heap.size w W1 := by rw [hW1]; exact below_alloc _ _
  have hx1 : W1.heap[w.heap.size]? = some (.cells lk0 89) := by rw [hW1]; exact heap_alloc_new _ _
  have hs1 : W1.heap.size = w.heap.size + 1 := by rw [hW1]; simp
  obtain ⟨X0, hX0⟩ : ∃ X, X = lk0 := ⟨_, rfl⟩
  rw [← hX0] at hW1
  have HX0 : Hid (X0 = lk0) := hX0
  have hXs : X0.size = 34 := by rw [hX0]; exact lk0_size
  have hXi : (Tryz.prog.info? 89).map (·.size) = some X0.size := by rw [hXs]; exact lookSize
  have HX1 : Hid (X0.all (·.oneCell') = true) := by show _ = _; rw [hX0]; exact lk0_one
  obtain ⟨L, hL⟩ : ∃ b, b = w.heap.size := ⟨_, rfl⟩
  rw [← hL] at hx1
  have HL : Hid (L = w.heap.size) := hL
  have HW1 : Hid _ := hW1
  have HB : Hid (Below w.heap.size w W1) := hb1
  have hC := attempt_fs (er := 0) (F' := F) (caps := #[ptr L]) (Q := fun k => k = L) (Rok := fun w' => ∃ S v, LookAt w' W1.heap.size L S sn' v nodes) (h.below hb1) (m' := m + 61000000) (by omega) (by omega) (fun k hk => by rw [hk]; exact lt_of_heap hx1) treen_call
    (fun w1 w2 hs hr => by obtain ⟨S, v, hr⟩ := hr; exact ⟨S, v, hr.st hs⟩)
    (fun w1 c cs v hc h1 hr => by
      obtain ⟨S, v', hr⟩ := hr
      have hLl := lt_of_heap hx1
      refine ⟨S, v', ?_, ownsRow_at hr.own (fun g hg => Below.heap_setCell _ _ _ _ ?_)⟩
      · exact (Below.heap_setCell _ _ _ _ (show L ≠ c by omega)).trans hr.head
      · show g ≠ c
        intro e
        obtain ⟨_, cs', h2⟩ := own_type hr.own hg
        rw [e, h1] at h2
        simp only [Option.some.injEq, Obj.cells.injEq] at h2
        exact absurd h2.2.1 (by decide))
    (fun W d vs hb hd hf => by
      refine (tree1_at (base := W.heap.size) (L := L) hf hA hsz k hk hN hnl hm (Nat.lt_of_lt_of_le (lt_of_heap hx1) hb.size) (Nat.le_refl _) ((hb.block _ (lt_of_heap hx1)).trans hx1)).mono ?_
      rintro e w' ⟨rfl, v', hf', hk', hu'⟩
      exact Or.inl ⟨rfl, rfl, ⟨hu'.os, hu'.tape, hu'.output, hu'.size, fun k hk hs hq => hu'.block k hk hs (fun x => x.elim hq (fun y => by omega))⟩, hf', _, v', hk'.lower hb.size⟩)
  have Hs1 : Hid (W1.heap.size = w.heap.size + 1) := hs1
  have hst := run_storeCells_new (P := Tryz.prog) w 89 #[.nilIface, .bool false, .bool false, .bool false, .bool false, .bool false, .bool false, .bool false, .bool false, .bool false, .bool false, .bool false, .bool false, .bool false, .bool false, .bool false, .bool false, .bool false, .bool false, .bool false, .bool false, .bool false, .bool false, .bool false, .bool false, .bool false, .bool false, .bool false, .bool false, .bool false, .bool false, .bool false, .bool false, .slice none 0 0] X0 hXi (by rw [hXs]; rfl) HX1.out
  clear h hA hsz hN hb1 hx1 hs1 hL hW1 hX0
  go_enter Tryz.func13, Tryz.ntmps13
  go_wp2_with (first
    | (refine wpList_build_eq rfl 89 _ rfl X0 (by rw [HX0.out, ← look_built]; go_simp) ?_)
    | fail)
  rw [← HW1.out, ← HL.out]
  refine hC.mono ?_
  rintro e w3 ⟨rfl, hsu, hf, hr⟩
  obtain ⟨S, v, hr⟩ := hr trivial
  rw [if_pos trivial] at hf
  have HF : Hid (Fs w3 (dsk lo B G) F (m + 62000000)) := hf.mono (by omega)
  have HST : Hid (ST lo w w3) := SU.drop HB.out hsu (fun k hk => by rw [hk, HL.out]; exact Nat.le_refl _)
  have HO : Hid (OwD w3 w.heap.size v nodes) := (hr.lower (b0 := w.heap.size) (by rw [Hs1.out]; omega)).own
  have c3 := hr.cn
  obtain ⟨va, vc, rfl⟩ : ∃ a c, v = .slice a nodes.length c := by
    rcases hr.own.2 with ⟨q1, q2⟩ | ⟨g, cap, cur, e1, _⟩
    · exact ⟨none, 0, by rw [q1, q2]⟩
    · exact ⟨_, cap, e1⟩
  clear hC hsu hf hr
  go_wp2
  go_ret
  exact ⟨_, rfl, HO.out, HF.out, HST.out⟩
end
end Go.Proofs.YtcjpahnlckfgoaaGreatDoor
