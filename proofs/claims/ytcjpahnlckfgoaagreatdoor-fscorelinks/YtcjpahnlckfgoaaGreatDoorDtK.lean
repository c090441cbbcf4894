/- Package dir, over a file system: List; rows of ints. -/
import Derived.Test.YtcjpahnlckfgoaaGreatDoorDtH
namespace Go.Proofs.YtcjpahnlckfgoaaGreatDoor
open Go.RowKit Go.Lib
set_option linter.unusedVariables false

theorem intInfo : (Tryz.prog.info? 3).map (fun i => (i.zero, i.size, i.bytes)) = some (some (.int .i64 0), 1, 8) := by kernel_rfl
/-- A slice of ints that can be read. -/
def Ns (w : World) (base : Nat) (v : Value) (ns : List Nat) : Prop :=
  ∃ a cap, v = .slice a ns.length cap ∧ ns.length ≤ cap ∧ (ns ≠ [] → ∃ g cur fz, a = some ⟨g, 0, none⟩ ∧ base ≤ g ∧ w.heap[g]? = some (.cells cur 3 fz) ∧ ∀ (j : Nat) (n : Nat), ns[j]? = some n → cur[j]? = some (.int .i64 (n : Int)))
def niv (n : Nat) : Value := .int .i64 (n : Int)
abbrev OwN (w : World) (base : Nat) (v : Value) (ns : List Nat) : Prop := w.ownsRow base 3 1 v ns.length (ns.map niv)
section
variable {w w' : World} {base : Nat} {v : Value} {ns : List Nat}
theorem Ns.keep (h : Ns w base v ns) {P : Nat → Prop} (hu : UpdP P w w') (hp : ∀ k, P k → k < base) : Ns w' base v ns := by
  obtain ⟨a, cap, h1, h2, h3⟩ := h
  refine ⟨a, cap, h1, h2, fun hne => ?_⟩
  obtain ⟨g, cur, fz, e1, e2, e3, e4⟩ := h3 hne
  exact ⟨g, cur, fz, e1, e2, (hu.block g (lt_of_heap e3) (fun k => by have := hp g k; omega)).trans e3, e4⟩
theorem Ns.below (h : Ns w base v ns) (hb : Below w.heap.size w w') : Ns w' base v ns := h.keep (P := fun _ => False) (UpdP.of_below hb) (fun _ k => k.elim)
theorem Ns.mono {base' : Nat} (h : Ns w base v ns) (hb : base' ≤ base) : Ns w base' v ns := by
  obtain ⟨a, cap, h1, h2, h3⟩ := h
  refine ⟨a, cap, h1, h2, fun hne => ?_⟩
  obtain ⟨g, cur, fz, e1, e2, e3, e4⟩ := h3 hne
  exact ⟨g, cur, fz, e1, Nat.le_trans hb e2, e3, e4⟩
theorem Ns.form (h : Ns w base v ns) : ∃ a cap, v = .slice a ns.length cap ∧ ns.length ≤ cap := by
  obtain ⟨a, cap, h1, h2, h3⟩ := h
  exact ⟨a, cap, h1, h2⟩
theorem Ns.nil (w : World) (base : Nat) : Ns w base (.slice none 0 0) [] := ⟨_, 0, rfl, Nat.le_refl _, fun h => absurd rfl h⟩
theorem OwN.row (h : OwN w base v ns) : Ns w base v ns := by
  obtain ⟨h1, h2⟩ := h
  rcases h2 with ⟨rfl, hn⟩ | ⟨g, cap, cur, rfl, hb, hh, hc, hm, hs, ht⟩
  · exact ⟨_, 0, by rw [hn], by omega, fun hne => absurd (List.length_eq_zero_iff.1 hn) hne⟩
  · refine ⟨_, cap, rfl, hc, fun _ => ⟨g, cur, _, rfl, hb, hh, fun j n hj => ?_⟩⟩
    have hl := (List.getElem?_eq_some_iff.1 hj).1
    have : (ns.map niv)[j]? = some (niv n) := by rw [List.getElem?_map, hj]; rfl
    rw [← ht, List.getElem?_take_of_lt (by omega)] at this
    simpa [niv] using this
theorem Ns.at {a : Option Addr} {n cap : Nat} (h : Ns w base (.slice a n cap) ns) {j x : Nat} (he : ns[j]? = some x) : ∃ g, a = some ⟨g, 0, none⟩ ∧ w.cell? ⟨g, j, none⟩ = some (.int .i64 (x : Int)) ∧ base ≤ g := by
  obtain ⟨a', cap', h1, h2, h3⟩ := h
  cases h1
  obtain ⟨g, cur, fz, rfl, e2, e3, e4⟩ := h3 (fun z => by rw [z] at he; simp at he)
  exact ⟨g, rfl, by rw [cell_of_heap e3]; exact e4 j x he, e2⟩
/-- Rows of two types lie in two blocks. -/
theorem own_apart {t1 t2 : TypeId} {s1 s2 n1 n2 : Nat} {u : Value} {xs ys : List Value} (h1 : w.ownsRow base t1 s1 v n1 xs) (h2 : w.ownsRow base t2 s2 u n2 ys) (ht : t1 ≠ t2) : v.ownBlock = none ∨ v.ownBlock ≠ u.ownBlock := by
  rcases h1.2 with ⟨rfl, _⟩ | ⟨g, cap, cur, rfl, _, hg, _⟩
  · exact Or.inl rfl
  · refine Or.inr (fun e => ?_)
    rcases h2.2 with ⟨rfl, _⟩ | ⟨g', cap', cur', rfl, _, hg', _⟩
    · simp [Value.ownBlock] at e
    · simp only [Value.ownBlock, Option.some.injEq] at e
      subst e
      rw [hg] at hg'
      injection hg' with hg'
      injection hg' with _ hg'
      exact ht hg'
end
section
variable {w w' : World} {m : Nat} {B : Sto} {F : FS}
set_option maxHeartbeats 4000000 in
set_option maxRecDepth 100000 in
theorem List_at (h : Fs w B F m) (hA : AllD F) (hm : m ≤ 800000000000) (i : Int) :
    Calls Tryz.prog 98 #[sto B, .int .i64 i] w fun e w' => ∃ v u, e = .returned (.tuple #[v, u]) ∧ Ts w' w.heap.size v ((dirL F i).map Ent.name) ∧ Ns w' w.heap.size u ((dirL F i).map Ent.to) ∧ Fs w' B F (m + 6000) ∧ BG B w w' := by
  have hE := entries_at h hA hm i
  have hL := dir_len hA i
  clear h
  cases hd : isD F i with
  | false =>
    have HR : Hid (dirL F i = []) := by show _ = _; unfold dirL; rw [hd]; rfl
    have he : enR F i = 20 := by unfold enR; rw [hd]; rfl
    rw [he] at hE
    clear he hd hL
    go_enter Tryz.func98, Tryz.ntmps98
    go_wp2_with fail
    refine hE.mono ?_
    rintro e w1 ⟨v, rfl, hEt, hf, hbg⟩
    have HQ : Hid (Fs w1 B F (m + 6000) ∧ BG B w w1) := ⟨hf, hbg⟩
    obtain ⟨a, cap, rfl, -⟩ := hEt.form
    clear hE hEt hf hbg
    go_wp2
    go_ret2
    exact ⟨_, _, rfl, by rw [HR.out]; exact Ts.nil _ _, by rw [HR.out]; exact Ns.nil _ _, HQ.out⟩
  | true =>
    have he : enR F i = 0 := by unfold enR; rw [hd]; rfl
    rw [he] at hE
    clear he hd
    generalize dirL F i = l at *
    obtain ⟨i0, hi0, hzz⟩ := Option.map_eq_some_iff.1 txtInfo
    simp only [Prod.mk.injEq] at hzz
    obtain ⟨hz0, hz1, hz2⟩ := hzz
    obtain ⟨j0, hj0, hyy⟩ := Option.map_eq_some_iff.1 intInfo
    simp only [Prod.mk.injEq] at hyy
    obtain ⟨hy0, hy1, hy2⟩ := hyy
    go_enter Tryz.func98, Tryz.ntmps98
    go_wp2_with fail
    refine hE.mono ?_
    rintro e w1 ⟨v, rfl, hEt, hf, hbg⟩
    obtain ⟨a, cap, rfl, -⟩ := hEt.form
    have HEt : Hid (Et w1 w.heap.size (.slice a l.length cap) l) := hEt
    have HQ : Hid (Fs w1 B F (m + 6000) ∧ BG B w w1) := ⟨hf, hbg⟩
    clear hE hEt hf hbg
    go_wp2
    go_loopw [8, 9, 11, 22] (fun s8 s9 s11 s22 wr => ∃ (k : Nat) (v u u11 : Value), v = s8 ∧ u = s9 ∧ u11 = s11 ∧ s22 = .int .i64 k ∧ k ≤ l.length ∧ Hid (OwT wr w1.heap.size v ((l.take k).map Ent.name) ∧ OwN wr w1.heap.size u ((l.take k).map Ent.to) ∧ Below w1.heap.size w1 wr)) (fun _ _ _ s22 _ => l.length - (RowKit.intOf s22).toNat)
    case atStart => exact ⟨0, _, _, _, rfl, rfl, rfl, rfl, by omega, World.ownsRow_nil _ _ _ _, World.ownsRow_nil _ _ _ _, Below.refl _ _⟩
    case round =>
      obtain ⟨k, v, u, u11, rfl, rfl, rfl, rfl, hk, HS⟩ := hrel
      by_cases hlt : k < l.length
      · obtain ⟨e, he⟩ : ∃ e, l[k]? = some e := ⟨l[k], List.getElem?_eq_getElem hlt⟩
        obtain ⟨g, o, rfl, c0, c1⟩ := (HEt.out.below HS.out.2.2).at he
        have hint : (k : Int) < (l.length : Int) := by omega
        have HK : Hid (l.take (k + 1) = l.take k ++ [e]) := by show _ = _; rw [List.take_add_one, he]; rfl
        have hl1 : ((l.take k).map Ent.name).length = k := by rw [List.length_map, List.length_take]; omega
        have hl2 : ((l.take k).map Ent.to).length = k := by rw [List.length_map, List.length_take]; omega
        obtain ⟨N1, hN1⟩ : ∃ N, N = (l.take k).map Ent.name := ⟨_, rfl⟩
        obtain ⟨N2, hN2⟩ : ∃ N, N = (l.take k).map Ent.to := ⟨_, rfl⟩
        rw [← hN1, ← hN2] at HS
        rw [← hN1] at hl1
        rw [← hN2] at hl2
        have HN : Hid ((l.take (k + 1)).map Ent.name = N1 ++ [e.name] ∧ (l.take (k + 1)).map Ent.to = N2 ++ [e.to]) := by
          rw [HK.out, hN1, hN2, List.map_append, List.map_append]
          exact ⟨rfl, rfl⟩
        obtain ⟨W2, hW2⟩ : ∃ W, W = wr.alloc (.cells #[tx e.name, .int .i64 (e.to : Int)] 219) := ⟨_, rfl⟩
        obtain ⟨p, hp⟩ : ∃ p, p = wr.heap.size := ⟨_, rfl⟩
        have hx : W2.heap[p]? = some (.cells #[tx e.name, .int .i64 (e.to : Int)] 219) := by rw [hp, hW2]; exact heap_alloc_new _ _
        have hb2 : Below wr.heap.size wr W2 := by rw [hW2]; exact below_alloc _ _
        have d0 : W2.cell? ⟨p, 0, none⟩ = some (tx e.name) := by rw [cell_of_heap hx]; rfl
        have d1 : W2.cell? ⟨p, 1, none⟩ = some (.int .i64 (e.to : Int)) := by rw [cell_of_heap hx]; rfl
        have HS2 : Hid (OwT W2 w1.heap.size v N1 ∧ OwN W2 w1.heap.size u N2 ∧ Below w1.heap.size w1 W2) := by
          rw [hW2]
          exact ⟨HS.out.1.alloc _, HS.out.2.1.alloc _, HS.out.2.2.trans ((below_alloc wr _).mono HS.out.2.2.size)⟩
        have HX : Hid (W2.heap[p]? = some (.cells #[tx e.name, .int .i64 (e.to : Int)] 219)) := hx
        have HW2 : Hid (W2 = wr.alloc (.cells #[tx e.name, .int .i64 (e.to : Int)] 219)) := hW2
        have Hp : Hid (p = wr.heap.size) := hp
        have Hs : Hid (W2.heap.size = p + 1) := by rw [hW2, hp]; exact World.size_alloc _ _
        have H12 : Hid (N1.length = k ∧ N2.length = k) := ⟨hl1, hl2⟩
        clear he hN1 hN2 hx hb2 hW2 hp hl1 hl2 HS
        go_wp2_with (at_builtin; rw [← HW2.out, ← Hp.out]; refine wpList_append_own _ rfl _ _ 153 rfl w1.heap.size 9 i0 (.string ⟨#[]⟩) 1 16 Tryz.underlying153 hi0 hz0 hz1 hz2 rfl (by decide) _ _ _ rfl (HS2.out.1.alloc _) ⟨p + 1, 0, none⟩ 1 1 [tx e.name] rfl rfl ?c1 ?c2 ?c3 ?c4 ?c5 ?_)
        (try (case c1 => exact World.news_of_block (cs := #[tx e.name]) (t := 9) (fr := (0, 0)) (by rw [← Hs.out]; exact heap_alloc_new _ _)))
        (try (case c2 => first | rfl | (intro u hu; simp at hu; subst hu; rfl)))
        case c3 => have := H12.out; unfold maxLen; omega
        case c4 => have := H12.out; omega
        case c5 => have := HS2.out.2.2.size; simp; omega
        intro v' w3 hown' hgrow _
        have hplt : p < W2.heap.size := lt_of_heap HX.out
        have hS3 : OwT w3 w1.heap.size v' (N1 ++ [e.name]) ∧ OwN w3 w1.heap.size u N2 ∧ Below w1.heap.size w1 w3 ∧ w3.heap[p]? = some (.cells #[tx e.name, .int .i64 (e.to : Int)] 219) := by
          refine ⟨?_, ?_, ?_, ?_⟩
          · show w3.ownsRow _ _ _ _ (N1 ++ [e.name]).length _
            rw [List.length_append, List.map_append]
            exact hown'
          · exact World.ownsRow.kept (HS2.out.2.1.alloc _) hgrow (own_apart HS2.out.2.1 HS2.out.1 (by decide))
          · exact (HS2.out.2.2.trans ((below_alloc W2 _).mono HS2.out.2.2.size)).grown hgrow (by have := HS2.out.2.2.size; simp; omega) (fun k hk => (HS2.out.1.lt k hk).1)
          · have hne : some p ≠ v.ownBlock := fun z => by
              rcases HS2.out.1.2 with ⟨q, _⟩ | ⟨g', cap', cur', q, _, hg', _⟩
              · rw [q] at z; simp [Value.ownBlock] at z
              · rw [q] at z
                simp only [Value.ownBlock, Option.some.injEq] at z
                subst z
                rw [HX.out] at hg'
                injection hg' with hg'
                injection hg' with _ hg'
                exact absurd hg' (by decide)
            rw [hgrow.block p (by simp; omega) hne, Lib.alloc_old W2 _ p hplt]
            exact HX.out
        have e1 : w3.cell? ⟨p, 1, none⟩ = some (.int .i64 (e.to : Int)) := by rw [cell_of_heap hS3.2.2.2]; rfl
        have HS3 : Hid (OwT w3 w1.heap.size v' (N1 ++ [e.name]) ∧ OwN w3 w1.heap.size u N2 ∧ Below w1.heap.size w1 w3) := ⟨hS3.1, hS3.2.1, hS3.2.2.1⟩
        clear hown' hgrow hS3 hplt
        go_wp2_with (at_builtin; refine wpList_append_own _ rfl _ _ 27 rfl w1.heap.size 3 j0 (.int .i64 0) 1 8 Tryz.underlying27 hj0 hy0 hy1 hy2 rfl (by decide) _ _ _ rfl (HS3.out.2.1.alloc _) ⟨w3.heap.size, 0, none⟩ 1 1 [niv e.to] rfl rfl ?c1 ?c2 ?c3 ?c4 ?c5 ?_)
        (try (case c1 => exact World.news_of_block (cs := #[niv e.to]) (t := 3) (fr := (0, 0)) (heap_alloc_new _ _)))
        (try (case c2 => first | rfl | (intro u hu; simp at hu; subst hu; rfl)))
        case c3 => have := H12.out; unfold maxLen; omega
        case c4 => have := H12.out; omega
        case c5 => have := HS3.out.2.2.size; simp; omega
        intro u' w4 hown' hgrow _
        have HS4 : Hid (OwT w4 w1.heap.size v' ((l.take (k + 1)).map Ent.name) ∧ OwN w4 w1.heap.size u' ((l.take (k + 1)).map Ent.to) ∧ Below w1.heap.size w1 w4) := by
          rw [HN.out.1, HN.out.2]
          refine ⟨?_, ?_, ?_⟩
          · exact World.ownsRow.kept (HS3.out.1.alloc _) hgrow (own_apart HS3.out.1 HS3.out.2.1 (by decide))
          · show w4.ownsRow _ _ _ _ (N2 ++ [e.to]).length _
            rw [List.length_append, List.map_append]
            exact hown'
          · exact (HS3.out.2.2.trans ((below_alloc w3 _).mono HS3.out.2.2.size)).grown hgrow (by have := HS3.out.2.2.size; simp; omega) (fun k hk => (HS3.out.2.1.lt k hk).1)
        clear hown' hgrow HS3 HS2 HW2 Hp HX
        go_wp2
        go_roundw
        case rel => exact ⟨k + 1, _, _, _, rfl, rfl, rfl, by go_num, by omega, HS4⟩
        case measure => simp [RowKit.intOf]; omega
      · have hnl : ¬ (k : Int) < (l.length : Int) := by omega
        have hS := HS.out
        rw [List.take_of_length_le (by omega)] at hS
        have HSe : Hid (OwT wr w1.heap.size v (l.map Ent.name) ∧ OwN wr w1.heap.size u (l.map Ent.to) ∧ Below w1.heap.size w1 wr) := hS
        clear hS HS
        go_wp2
        go_ret2
        exact ⟨_, _, rfl, (OwT.row HSe.out.1).mono HQ.out.2.size, (OwN.row HSe.out.2.1).mono HQ.out.2.size, HQ.out.1.below HSe.out.2.2, HQ.out.2.trans (bg_of HSe.out.2.2)⟩
end
end Go.Proofs.YtcjpahnlckfgoaaGreatDoor
