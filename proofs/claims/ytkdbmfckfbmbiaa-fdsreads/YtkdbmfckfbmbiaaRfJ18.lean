/- The reference of package fds: name. -/
import Derived.Test.YtkdbmfckfbmbiaaRfI18
import Derived.Deep.RegionLaw
namespace Go.Proofs.Ytkdbmfckfbmbiaa
open Go.RowKit
set_option linter.unusedVariables false

theorem insN_at {k0 q : Nat} {d : List Nat} (hs : d.Pairwise (· < ·)) (hlo : ∀ j y, j < q → d[j]? = some y → y < k0) (hhi : ∀ y, d[q]? = some y → k0 < y) : insN k0 d = d.take q ++ k0 :: d.drop q := by
  have h1 : ∀ y ∈ d.take q, y < k0 := fun y hy => by
    obtain ⟨j, hj⟩ := List.mem_iff_getElem?.1 hy
    have hjl := (List.getElem?_eq_some_iff.1 hj).1
    rw [List.length_take] at hjl
    rw [List.getElem?_take_of_lt (by omega)] at hj
    exact hlo j y (by omega) hj
  have h2 : ∀ y ∈ d.drop q, k0 < y := fun y hy => by
    cases hd : d.drop q with
    | nil => rw [hd] at hy; simp at hy
    | cons z l =>
      have hz : d[q]? = some z := by
        have : (d.drop q)[0]? = some z := by rw [hd]; rfl
        rwa [List.getElem?_drop, Nat.add_zero] at this
      have h3 := hhi z hz
      have hp : (d.drop q).Pairwise (· < ·) := hs.sublist (List.drop_sublist _ _)
      rw [hd, List.pairwise_cons] at hp
      rw [hd] at hy
      rcases List.mem_cons.1 hy with rfl | hy
      · exact h3
      · exact Nat.lt_trans h3 (hp.1 y hy)
  unfold insN
  have e1 : d.filter (fun k => decide (k < k0)) = d.take q := by
    conv => lhs; rw [← List.take_append_drop q d]
    rw [List.filter_append, List.filter_eq_self.2 (fun y hy => decide_eq_true (h1 y hy)), List.filter_eq_nil_iff.2 (fun y hy => by have := h2 y hy; simp; omega), List.append_nil]
  have e2 : d.filter (fun k => decide (k0 < k)) = d.drop q := by
    conv => lhs; rw [← List.take_append_drop q d]
    rw [List.filter_append, List.filter_eq_self.2 (fun y hy => decide_eq_true (h2 y hy)), List.filter_eq_nil_iff.2 (fun y hy => by have := h1 y hy; simp; omega), List.nil_append]
  rw [e1, e2]
/-- What lies below while descriptors are kept. -/
structure NmV (w V : World) (B c : Nat) (v : Value) (L : List En) (pp fd : Int) : Prop where
  is : RIs V B c v L
  box : V.heap[w.heap.size]? = some (.cells #[.int .i64 pp, .int .i64 fd] 77)
  bel : Below w.heap.size w V
theorem name_tail {V U : World} {B c i ll cap q dn cp g ecp : Nat} {L : List En} {x : Fl} {a ea : Option Addr} {ed : List Nat} (hR : RIs V B c (.slice (some ⟨g, 0, none⟩) ll cap) L) (hown : U.ownsRow V.heap.size 77 2 (.slice a q cp) (ed.take q).length (prs (ed.take q))) (hb : Below V.heap.size V U) (hq : q ≤ dn) (hd : ed.length = dn ∧ dn ≤ 48) (he : L[i]? = some ⟨x, ea, ecp, ed⟩) (pp fd : Int) (k0 : Nat) (h0 : ((k0 / 6 + 1 : Nat) : Int) = pp) (h1 : ((k0 % 6 : Nat) : Int) = fd) (hin : insN k0 ed = ed.take q ++ k0 :: ed.drop q) :
    ∃ a1 c1 w1 a2 c2 a3 c3 w3,
      (∀ ty, (Builtin.append_ #[78, 78] ty #[.slice a q cp, .slice (some ⟨U.heap.size, 0, none⟩) 1 1]).run Try.prog (U.alloc (.cells #[.int .i64 pp, .int .i64 fd] 77)) = .ok (.slice a1 (q + 1) c1) w1) ∧
      (∀ Z, (Instr.slice 78 (.slice ea dn ecp) (some (.int .i64 (q : Int))) none none).run Try.prog Z = .ok (.slice a2 (dn - q) c2) Z) ∧
      (∀ ty, (Builtin.append_ #[78, 78] ty #[.slice a1 (q + 1) c1, .slice a2 (dn - q) c2]).run Try.prog w1.drew = .ok (.slice a3 (dn + 1) c3) w3) ∧
      w1.cell? ⟨c, 0, none⟩ = some (.slice (some ⟨g, 0, none⟩) ll cap) ∧ w1.cell? ⟨g, i * 6 + 5, none⟩ = some (.slice ea dn ecp) ∧
      w3.cell? ⟨c, 0, none⟩ = some (.slice (some ⟨g, 0, none⟩) ll cap) ∧ w3.cell? ⟨g, i * 6 + 5, none⟩ = some (.slice ea dn ecp) ∧ w3.frozen? ⟨g, i * 6 + 5, none⟩ = false ∧
      RIs (w3.setCell ⟨g, i * 6 + 5, none⟩ (.slice a3 (dn + 1) c3)) B c (.slice (some ⟨g, 0, none⟩) ll cap) (L.set i ⟨x, a3, c3, insN k0 ed⟩) ∧ RU B V (w3.setCell ⟨g, i * 6 + 5, none⟩ (.slice a3 (dn + 1) c3)) ∧ w1.heap.size ≤ w3.heap.size := by
  obtain ⟨hdl, hd48⟩ := hd
  have hlt : (ed.take q).length = q := by rw [List.length_take]; omega
  obtain ⟨a1, c1, w1, r1, o1, b1⟩ := pushP hown hlt hb.size k0 pp fd h0 h1 (by omega)
  have hb1 := hb.trans b1
  have hcap := (hR.rd _ (List.mem_of_getElem? he)).2
  dsimp only at hcap
  obtain ⟨a2, c2, hs2, hx2⟩ := cutP_l ed ea dn ecp q hdl.symm hq (by omega)
  have hR1 := hR.below hb1
  have hb1' : Below V.heap.size V w1.drew := hb1.drew
  have hRd := hR.below hb1'
  have o1' : w1.drew.ownsRow V.heap.size 77 2 (.slice a1 (q + 1) c1) (ed.take q ++ [k0]).length (prs (ed.take q ++ [k0])) := ownsRow_at o1 (fun _ _ => rfl)
  have hpx := hx2 w1.drew (PX.of_prd (hRd.rd _ (List.mem_of_getElem? he)).1)
  obtain ⟨a3, c3, w3, r3, o3, g3⟩ := appP (N := ed.drop q) (n2 := dn - q) (c2 := c2) o1' hb1'.size (by rw [List.length_drop, hdl]) hpx (by rw [List.length_append, List.length_drop, hlt]; simp; omega)
  have hb3 : Below V.heap.size V w3 := hb1'.trans (below_grown g3 hb1'.size (ownsRow_low o1'))
  have hlen : (ed.take q ++ [k0] ++ ed.drop q).length = dn + 1 := by rw [List.length_append, List.length_append, hlt, List.length_drop]; simp; omega
  rw [hlen] at r3
  have hR3 := hR.below hb3
  obtain ⟨gg, cc, e1, _, ⟨cs, hcs⟩, hc⟩ := hR3.at he
  simp only [Value.slice.injEq, Option.some.injEq, Addr.mk.injEq] at e1
  obtain ⟨⟨rfl, -⟩, -, rfl⟩ := e1
  obtain ⟨gg, cc, e1, _, _, hcw⟩ := hR1.at he
  simp only [Value.slice.injEq, Option.some.injEq, Addr.mk.injEq] at e1
  obtain ⟨⟨rfl, -⟩, -, rfl⟩ := e1
  have hin2 : insN k0 ed = ed.take q ++ [k0] ++ ed.drop q := by rw [hin]; simp
  rw [← hin2] at o3 hlen
  have o4 := own_PRd o3
  have hs := hR3.cell_set (i := i) (m := 5) (e := ⟨x, ea, ecp, ed⟩) (e' := ⟨x, a3, c3, insN k0 ed⟩) rfl he (by omega) (.slice a3 (dn + 1) c3) (by show Value.slice _ _ _ = _; rw [hlen]) (fun j hj hne => by
    obtain rfl | rfl | rfl | rfl | rfl : j = 0 ∨ j = 1 ∨ j = 2 ∨ j = 3 ∨ j = 4 := by omega
    all_goals rfl) ⟨o4.1, o4.2.1⟩ (i * 6 + 5) rfl
  have hU1 : RU B V w3 := RU.of_below hb3 (by have := hR.cB; have := hR.lt; omega)
  refine ⟨a1, c1, w1, a2, c2, a3, c3, w3, r1, hs2, r3, hR1.c0, ?_, hR3.c0, ?_, frozen_of_heap hcs, hs.1, hU1.trans hs.2, ?_⟩
  · have := hcw 5 (by omega); rw [← hdl]; exact this
  · have := hc 5 (by omega); rw [← hdl]; exact this
  · have := g3.size; exact this
set_option maxRecDepth 100000 in
set_option maxHeartbeats 8000000 in
theorem rname_at (B c : Nat) (v : Value) (L : List En) (i k0 : Nat) (e : En) (pp fd : Int) (w : World) (h : RIs w B c v L) (hBw : B ≤ w.heap.size) (he : L[i]? = some e) (hl : L.length ≤ 48) (hd : ∀ y ∈ L, y.d.length ≤ 48) (hup : e.d.Pairwise (· < ·)) (hnk : k0 ∉ e.d) (h0 : ((k0 / 6 + 1 : Nat) : Int) = pp) (h1 : ((k0 % 6 : Nat) : Int) = fd) :
    Calls Try.prog 43 #[.pointer (some ⟨c, 0, none⟩), .int .i64 i, .int .i64 pp, .int .i64 fd] w fun e' w' => e' = .returned (.tuple #[]) ∧ (∃ v' a3 c3, RIs w' B c v' (sortE (L.set i ⟨e.x, a3, c3, insN k0 e.d⟩))) ∧ RU B w w' := by
  obtain ⟨g, cap, rfl, _, _, hc⟩ := h.at he
  have hil : i < L.length := (List.getElem?_eq_some_iff.1 he).1
  have hdl := hd e (List.mem_of_getElem? he)
  generalize hlg : L.length = ll at *
  have HLl : Hid (L.length = ll) := hlg
  have HLe : Hid (L[i]? = some e) := he
  have HH : Hid (RIs w B c (.slice (some ⟨g, 0, none⟩) ll cap) L) := h
  have HDl : Hid (∀ y ∈ L, y.d.length ≤ 48) := hd
  have HUp : Hid (e.d.Pairwise (· < ·)) := hup
  have HNk : Hid (k0 ∉ e.d) := hnk
  have HP0 : Hid (((k0 / 6 + 1 : Nat) : Int) = pp) := h0
  have HP1 : Hid (((k0 % 6 : Nat) : Int) = fd) := h1
  have hii : (i : Int) < (ll : Int) := by omega
  obtain ⟨x, ea, ecp, ed⟩ := e
  dsimp only at *
  generalize hdg : ed.length = dn at *
  have HDn : Hid (ed.length = dn) := hdg
  clear h he hd hup hnk h0 h1 hlg hdg hc
  go_enter Try.func43, Try.ntmps43
  go_wp2
  go_loopw [8, 9] (fun t s wr => ∃ (V : World) (q : Nat) (a : Option Addr) (cp : Nat), q ≤ dn ∧ s = .int .i64 q ∧ t = .slice a q cp ∧ Hid (∀ j y, j < q → ed[j]? = some y → y < k0) ∧ wr.ownsRow V.heap.size 77 2 (.slice a q cp) (ed.take q).length (prs (ed.take q)) ∧ Hid (NmV w V B c (.slice (some ⟨g, 0, none⟩) ll cap) L pp fd) ∧ Below V.heap.size V wr) (fun _ s _ => dn - (intOf s).toNat)
  case atStart =>
    exact ⟨_, 0, none, 0, Nat.zero_le _, rfl, rfl, (show Hid _ from fun j y hj => absurd hj (Nat.not_lt_zero _)), World.ownsRow_nil _ _ _ _, (show Hid _ from ⟨HH.out.below (below_alloc _ _), heap_alloc_new _ _, below_alloc _ _⟩), Below.refl _ _⟩
  case round =>
    obtain ⟨V, q, a, cp, hqd, rfl, rfl, HLo, hown, HV, hb⟩ := hrel
    have hR := HV.out.is.below hb
    have c0 := hR.c0
    obtain ⟨g', cap', e1, _, _, hc⟩ := hR.at HLe.out
    simp only [Value.slice.injEq, Option.some.injEq, Addr.mk.injEq] at e1
    obtain ⟨⟨rfl, -⟩, -, rfl⟩ := e1
    have d5 : wr.cell? ⟨g, i * 6 + 5, none⟩ = some (.slice ea dn ecp) := by have := hc 5 (by omega); rw [← HDn.out]; exact this
    obtain ⟨hrd, hcp⟩ := hR.rd _ (List.mem_of_getElem? HLe.out)
    dsimp only at hrd hcp
    have hbx : wr.heap[w.heap.size]? = some (.cells #[.int .i64 pp, .int .i64 fd] 77) := (hb.block _ (lt_of_heap HV.out.box)).trans HV.out.box
    have x0 : wr.cell? ⟨w.heap.size, 0, none⟩ = some (.int .i64 pp) := by rw [cell_of_heap hbx]; rfl
    have x1 : wr.cell? ⟨w.heap.size, 1, none⟩ = some (.int .i64 fd) := by rw [cell_of_heap hbx]; rfl
    have hde : ed.length = dn ∧ dn ≤ 48 := ⟨HDn.out, hdl⟩
    have HB : Hid (Below V.heap.size V wr) := hb
    have HO : Hid (wr.ownsRow V.heap.size 77 2 (.slice a q cp) (ed.take q).length (prs (ed.take q))) := hown
    by_cases hlt : q < dn
    · obtain ⟨y, hy⟩ : ∃ y, ed[q]? = some y := ⟨ed[q]'(by rw [HDn.out]; exact hlt), List.getElem?_eq_getElem _⟩
      obtain ⟨gd, rfl, _, p0, p1⟩ := hrd q y hy
      have HY : Hid (ed[q]? = some y) := hy
      have hLs := less_at y k0
      rw [HP0.out, HP1.out] at hLs
      obtain ⟨ya, hya⟩ : ∃ ya : Int, ((y / 6 + 1 : Nat) : Int) = ya := ⟨_, rfl⟩
      obtain ⟨yb, hyb⟩ : ∃ yb : Int, ((y % 6 : Nat) : Int) = yb := ⟨_, rfl⟩
      have HYa : Hid (((y / 6 + 1 : Nat) : Int) = ya) := hya
      have HYb : Hid (((y % 6 : Nat) : Int) = yb) := hyb
      rw [hya, hyb] at hLs
      rw [hya] at p0
      rw [hyb] at p1
      have hqi : (q : Int) < (dn : Int) := by omega
      have g1 : decide ((q : Int) < (dn : Int)) = true := decide_eq_true hqi
      have p0' : wr.drew.cell? ⟨gd, q * 2, none⟩ = some (.int .i64 ya) := p0
      have p1' : wr.drew.cell? ⟨gd, q * 2 + 1, none⟩ = some (.int .i64 yb) := p1
      have x0' : wr.drew.cell? ⟨w.heap.size, 0, none⟩ = some (.int .i64 pp) := x0
      have x1' : wr.drew.cell? ⟨w.heap.size, 1, none⟩ = some (.int .i64 fd) := x1
      have c0' : wr.drew.cell? ⟨c, 0, none⟩ = some (.slice (some ⟨g, 0, none⟩) ll cap) := c0
      have d5' : wr.drew.cell? ⟨g, i * 6 + 5, none⟩ = some (.slice (some ⟨gd, 0, none⟩) dn ecp) := d5
      clear hR hc hrd hcp hbx hown hb hy hya hyb p0 p1 x0 x1 c0 d5
      go_wp2_with fail
      refine wp_region_held_drew (S := fun w' => w'.cell? ⟨c, 0, none⟩ = some (.slice (some ⟨g, 0, none⟩) ll cap) ∧ w'.cell? ⟨g, i * 6 + 5, none⟩ = some (.slice (some ⟨gd, 0, none⟩) dn ecp) ∧ w'.cell? ⟨gd, q * 2, none⟩ = some (.int .i64 ya) ∧ w'.cell? ⟨gd, q * 2 + 1, none⟩ = some (.int .i64 yb) ∧ w'.cell? ⟨w.heap.size, 0, none⟩ = some (.int .i64 pp) ∧ w'.cell? ⟨w.heap.size, 1, none⟩ = some (.int .i64 fd)) (by kernel_rfl) ⟨c0', d5', p0', p1', x0', x1'⟩ (fun hHeld => ?_)
      refine wpAnyH_take (i := 0) (v := ?_) rfl (by kernel_rfl) (by kernel_rfl) (by kernel_rfl) (fun _ _ _ h => h) (Or.inl ⟨by kernel_rfl, ?_⟩) (by assumption) ?_
      rotate_left
      · (intro w hSw; (try dsimp only at hSw); go_simp) <;> with_reducible rfl
      (try simp only [Act.put, List.getElem_toArray, List.getElem_cons_zero, List.setIfInBounds_toArray, List.set_cons_zero, List.set_cons_succ])
      refine wpAnyH_take (i := 1) (v := ?_) rfl (by kernel_rfl) (by kernel_rfl) (by kernel_rfl) (fun _ _ _ h => h) (Or.inl ⟨by kernel_rfl, ?_⟩) (by assumption) ?_
      rotate_left
      · (intro w hSw; (try dsimp only at hSw); go_simp) <;> with_reducible rfl
      (try simp only [Act.put, List.getElem_toArray, List.getElem_cons_zero, List.getElem_cons_succ, List.setIfInBounds_toArray, List.set_cons_zero, List.set_cons_succ])
      refine wpAnyH_take (i := 2) (v := ?_) rfl (by kernel_rfl) (by kernel_rfl) (by kernel_rfl) (fun _ _ _ h => h) (Or.inl ⟨by kernel_rfl, ?_⟩) (by assumption) ?_
      rotate_left
      · (intro w hSw; (try dsimp only at hSw); go_simp) <;> with_reducible rfl
      (try simp only [Act.put, List.getElem_toArray, List.getElem_cons_zero, List.getElem_cons_succ, List.setIfInBounds_toArray, List.set_cons_zero, List.set_cons_succ])
      refine wpAnyH_take (i := 3) (v := ?_) rfl (by kernel_rfl) (by kernel_rfl) (by kernel_rfl) (fun _ _ _ h => h) (Or.inl ⟨by kernel_rfl, ?_⟩) (by assumption) ?_
      rotate_left
      · (intro w hSw; (try dsimp only at hSw); go_simp) <;> with_reducible rfl
      (try simp only [Act.put, List.getElem_toArray, List.getElem_cons_zero, List.getElem_cons_succ, List.setIfInBounds_toArray, List.set_cons_zero, List.set_cons_succ])
      refine wpAnyH_take (i := 4) (v := ?_) rfl (by kernel_rfl) (by kernel_rfl) (by kernel_rfl) (fun _ _ _ h => h) (Or.inl ⟨by kernel_rfl, ?_⟩) (by assumption) ?_
      rotate_left
      · (intro w hSw; (try dsimp only at hSw); go_simp) <;> with_reducible rfl
      (try simp only [Act.put, List.getElem_toArray, List.getElem_cons_zero, List.getElem_cons_succ, List.setIfInBounds_toArray, List.set_cons_zero, List.set_cons_succ])
      refine wpAnyH_take (i := 5) (v := ?_) rfl (by kernel_rfl) (by kernel_rfl) (by kernel_rfl) (fun _ _ _ h => h) (Or.inl ⟨by kernel_rfl, ?_⟩) (by assumption) ?_
      rotate_left
      · (intro w hSw; (try dsimp only at hSw); go_simp) <;> with_reducible rfl
      (try simp only [Act.put, List.getElem_toArray, List.getElem_cons_zero, List.getElem_cons_succ, List.setIfInBounds_toArray, List.set_cons_zero, List.set_cons_succ])
      refine wpAnyH_take (i := 6) (v := ?_) rfl (by kernel_rfl) (by kernel_rfl) (by kernel_rfl) (fun _ _ _ h => h) (Or.inl ⟨by kernel_rfl, ?_⟩) (by assumption) ?_
      rotate_left
      · (intro w hSw; (try dsimp only at hSw); go_simp) <;> with_reducible rfl
      (try simp only [Act.put, List.getElem_toArray, List.getElem_cons_zero, List.getElem_cons_succ, List.setIfInBounds_toArray, List.set_cons_zero, List.set_cons_succ])
      refine wpAnyH_take (i := 7) (v := ?_) rfl (by kernel_rfl) (by kernel_rfl) (by kernel_rfl) (fun _ _ _ h => h) (Or.inl ⟨by kernel_rfl, ?_⟩) (by assumption) ?_
      rotate_left
      · (intro w hSw; (try dsimp only at hSw); go_simp) <;> with_reducible rfl
      (try simp only [Act.put, List.getElem_toArray, List.getElem_cons_zero, List.getElem_cons_succ, List.setIfInBounds_toArray, List.set_cons_zero, List.set_cons_succ])
      refine wpAnyH_take (i := 8) (v := ?_) rfl (by kernel_rfl) (by kernel_rfl) (by kernel_rfl) (fun _ _ _ h => h) (Or.inl ⟨by kernel_rfl, ?_⟩) (by assumption) ?_
      rotate_left
      · (intro w hSw; (try dsimp only at hSw); go_simp) <;> with_reducible rfl
      (try simp only [Act.put, List.getElem_toArray, List.getElem_cons_zero, List.getElem_cons_succ, List.setIfInBounds_toArray, List.set_cons_zero, List.set_cons_succ])
      refine wpAnyH_take (i := 9) (v := ?_) rfl (by kernel_rfl) (by kernel_rfl) (by kernel_rfl) (fun _ _ _ h => h) (Or.inl ⟨by kernel_rfl, ?_⟩) (by assumption) ?_
      rotate_left
      · (intro w hSw; (try dsimp only at hSw); go_simp) <;> with_reducible rfl
      (try simp only [Act.put, List.getElem_toArray, List.getElem_cons_zero, List.getElem_cons_succ, List.setIfInBounds_toArray, List.set_cons_zero, List.set_cons_succ])
      refine wpAnyH_take (i := 10) (v := ?_) rfl (by kernel_rfl) (by kernel_rfl) (by kernel_rfl) (fun _ _ _ h => h) (Or.inl ⟨by kernel_rfl, ?_⟩) (by assumption) ?_
      rotate_left
      · (intro w hSw; (try dsimp only at hSw); go_simp) <;> with_reducible rfl
      (try simp only [Act.put, List.getElem_toArray, List.getElem_cons_zero, List.getElem_cons_succ, List.setIfInBounds_toArray, List.set_cons_zero, List.set_cons_succ])
      refine wpAnyH_take (i := 11) (v := ?_) rfl (by kernel_rfl) (by kernel_rfl) (by kernel_rfl) (fun _ _ _ h => h) (Or.inl ⟨by kernel_rfl, ?_⟩) (by assumption) ?_
      rotate_left
      · (intro w hSw; (try dsimp only at hSw); go_simp) <;> with_reducible rfl
      (try simp only [Act.put, List.getElem_toArray, List.getElem_cons_zero, List.getElem_cons_succ, List.setIfInBounds_toArray, List.set_cons_zero, List.set_cons_succ])
      refine wpAnyH_take (i := 12) (v := ?_) rfl (by kernel_rfl) (by kernel_rfl) (by kernel_rfl) (fun _ _ _ h => h) (Or.inl ⟨by kernel_rfl, ?_⟩) (by assumption) ?_
      rotate_left
      · (intro w hSw; (try dsimp only at hSw); go_simp) <;> with_reducible rfl
      (try simp only [Act.put, List.getElem_toArray, List.getElem_cons_zero, List.getElem_cons_succ, List.setIfInBounds_toArray, List.set_cons_zero, List.set_cons_succ])
      refine wpAnyH_take (i := 13) (v := ?_) rfl (by kernel_rfl) (by kernel_rfl) (by kernel_rfl) (fun _ _ _ h => h) (Or.inl ⟨by kernel_rfl, ?_⟩) (by assumption) ?_
      rotate_left
      · (intro w hSw; (try dsimp only at hSw); go_simp) <;> with_reducible rfl
      (try simp only [Act.put, List.getElem_toArray, List.getElem_cons_zero, List.getElem_cons_succ, List.setIfInBounds_toArray, List.set_cons_zero, List.set_cons_succ])
      refine wpAnyH_take (i := 14) (v := ?_) rfl (by kernel_rfl) (by kernel_rfl) (by kernel_rfl) (fun _ _ _ h => h) (Or.inl ⟨by kernel_rfl, ?_⟩) (by assumption) ?_
      rotate_left
      · (intro w hSw; (try dsimp only at hSw); go_simp) <;> with_reducible rfl
      (try simp only [Act.put, List.getElem_toArray, List.getElem_cons_zero, List.getElem_cons_succ, List.setIfInBounds_toArray, List.set_cons_zero, List.set_cons_succ])
      refine wpAnyH_take (i := 15) (v := ?_) rfl (by kernel_rfl) (by kernel_rfl) (by kernel_rfl) (fun _ _ _ h => h) (Or.inl ⟨by kernel_rfl, ?_⟩) (by assumption) ?_
      rotate_left
      · (intro w hSw; (try dsimp only at hSw); go_simp) <;> with_reducible rfl
      (try simp only [Act.put, List.getElem_toArray, List.getElem_cons_zero, List.getElem_cons_succ, List.setIfInBounds_toArray, List.set_cons_zero, List.set_cons_succ])
      refine wpAnyH_take (i := 16) (v := ?_) rfl (by kernel_rfl) (by kernel_rfl) (by kernel_rfl) (fun _ _ _ h => h) (Or.inl ⟨by kernel_rfl, ?_⟩) (by assumption) ?_
      rotate_left
      · (intro w hSw; (try dsimp only at hSw); go_simp) <;> with_reducible rfl
      (try simp only [Act.put, List.getElem_toArray, List.getElem_cons_zero, List.getElem_cons_succ, List.setIfInBounds_toArray, List.set_cons_zero, List.set_cons_succ])
      refine wpAnyH_take (i := 17) (v := ?_) rfl (by kernel_rfl) (by kernel_rfl) (by kernel_rfl) (fun _ _ _ h => h) (Or.inl ⟨by kernel_rfl, ?_⟩) (by assumption) ?_
      rotate_left
      · (intro w hSw; (try dsimp only at hSw); go_simp) <;> with_reducible rfl
      (try simp only [Act.put, List.getElem_toArray, List.getElem_cons_zero, List.getElem_cons_succ, List.setIfInBounds_toArray, List.set_cons_zero, List.set_cons_succ])
      refine wpAnyH_take (i := 18) (v := ?_) rfl (by kernel_rfl) (by kernel_rfl) (by kernel_rfl) (fun _ _ _ h => h) (Or.inl ⟨by kernel_rfl, ?_⟩) (by assumption) ?_
      rotate_left
      · (intro w hSw; (try dsimp only at hSw); go_simp) <;> with_reducible rfl
      (try simp only [Act.put, List.getElem_toArray, List.getElem_cons_zero, List.getElem_cons_succ, List.setIfInBounds_toArray, List.set_cons_zero, List.set_cons_succ])
      refine wpAnyH_take (i := 19) (v := ?_) rfl (by kernel_rfl) (by kernel_rfl) (by kernel_rfl) (fun _ _ _ h => h) (Or.inl ⟨by kernel_rfl, ?_⟩) (by assumption) ?_
      rotate_left
      · (intro w hSw; (try dsimp only at hSw); go_simp) <;> with_reducible rfl
      (try simp only [Act.put, List.getElem_toArray, List.getElem_cons_zero, List.getElem_cons_succ, List.setIfInBounds_toArray, List.set_cons_zero, List.set_cons_succ])
      refine wpAnyH_take (i := 20) (v := ?_) rfl (by kernel_rfl) (by kernel_rfl) (by kernel_rfl) (fun _ _ _ h => h) (Or.inl ⟨by kernel_rfl, ?_⟩) (by assumption) ?_
      rotate_left
      · (intro w hSw; (try dsimp only at hSw); go_simp) <;> with_reducible rfl
      (try simp only [Act.put, List.getElem_toArray, List.getElem_cons_zero, List.getElem_cons_succ, List.setIfInBounds_toArray, List.set_cons_zero, List.set_cons_succ])
      refine wpAnyH_take (i := 21) (v := ?_) rfl (by kernel_rfl) (by kernel_rfl) (by kernel_rfl) (fun _ _ _ h => h) (Or.inl ⟨by kernel_rfl, ?_⟩) (by assumption) ?_
      rotate_left
      · (intro w hSw; (try dsimp only at hSw); go_simp) <;> with_reducible rfl
      (try simp only [Act.put, List.getElem_toArray, List.getElem_cons_zero, List.getElem_cons_succ, List.setIfInBounds_toArray, List.set_cons_zero, List.set_cons_succ])
      refine wpAnyH_take (i := 22) (v := ?_) rfl (by kernel_rfl) (by kernel_rfl) (by kernel_rfl) (fun _ _ _ h => h) (Or.inl ⟨by kernel_rfl, ?_⟩) (by assumption) ?_
      rotate_left
      · (intro w hSw; (try dsimp only at hSw); go_simp) <;> with_reducible rfl
      (try simp only [Act.put, List.getElem_toArray, List.getElem_cons_zero, List.getElem_cons_succ, List.setIfInBounds_toArray, List.set_cons_zero, List.set_cons_succ])
      refine wpAnyH_take (i := 23) (v := ?_) rfl (by kernel_rfl) (by kernel_rfl) (by kernel_rfl) (fun _ _ _ h => h) (Or.inl ⟨by kernel_rfl, ?_⟩) (by assumption) ?_
      rotate_left
      · (intro w hSw; (try dsimp only at hSw); go_simp) <;> with_reducible rfl
      (try simp only [Act.put, List.getElem_toArray, List.getElem_cons_zero, List.getElem_cons_succ, List.setIfInBounds_toArray, List.set_cons_zero, List.set_cons_succ])
      refine wpAnyH_ready (rs := [24]) (by kernel_rfl) (by simp) ?_
      refine AllReadyH.cons rfl (fun K hK => ?_) AllReadyH.nil
      go_simp
      refine (hLs wr.drew).mono ?_
      rintro e1 w1 ⟨rfl, hb1⟩
      have hS1 : w1.cell? ⟨c, 0, none⟩ = some (.slice (some ⟨g, 0, none⟩) ll cap) ∧ w1.cell? ⟨g, i * 6 + 5, none⟩ = some (.slice (some ⟨gd, 0, none⟩) dn ecp) ∧ w1.cell? ⟨gd, q * 2, none⟩ = some (.int .i64 ya) ∧ w1.cell? ⟨gd, q * 2 + 1, none⟩ = some (.int .i64 yb) ∧ w1.cell? ⟨w.heap.size, 0, none⟩ = some (.int .i64 pp) ∧ w1.cell? ⟨w.heap.size, 1, none⟩ = some (.int .i64 fd) := ⟨(hb1.cell (cell_lt c0')).trans c0', (hb1.cell (cell_lt d5')).trans d5', (hb1.cell (cell_lt p0')).trans p0', (hb1.cell (cell_lt p1')).trans p1', (hb1.cell (cell_lt x0')).trans x0', (hb1.cell (cell_lt x1')).trans x1'⟩
      have hb1' : Below wr.heap.size wr w1 := ((Below.refl _ _).drew (w := wr)).trans hb1
      have HOV : Hid (w1.ownsRow V.heap.size 77 2 (.slice a q cp) (ed.take q).length (prs (ed.take q))) := ownsRow_below HO.out hb1'
      have HBV : Hid (Below V.heap.size V w1) := HB.out.trans (hb1'.mono HB.out.size)
      clear hb1 hb1' hLs c0' d5' p0' p1' x0' x1' HO HB
      refine hK.out _ _ hS1 (fun hHeld => ?_)
      clear hK K
      (try simp only [Act.put, List.getElem_toArray, List.getElem_cons_zero, List.getElem_cons_succ, List.setIfInBounds_toArray, List.set_cons_zero, List.set_cons_succ])
      obtain ⟨c0, d5, p0, p1, x0, x1⟩ := hS1
      have HC : Hid (w1.cell? ⟨c, 0, none⟩ = some (.slice (some ⟨g, 0, none⟩) ll cap) ∧ w1.cell? ⟨g, i * 6 + 5, none⟩ = some (.slice (some ⟨gd, 0, none⟩) dn ecp) ∧ w1.cell? ⟨gd, q * 2, none⟩ = some (.int .i64 ya) ∧ w1.cell? ⟨gd, q * 2 + 1, none⟩ = some (.int .i64 yb) ∧ w1.cell? ⟨w.heap.size, 0, none⟩ = some (.int .i64 pp) ∧ w1.cell? ⟨w.heap.size, 1, none⟩ = some (.int .i64 fd)) := ⟨c0, d5, p0, p1, x0, x1⟩
      clear c0 d5 p0 p1 x0 x1
      by_cases hly : y < k0
      · have gl : decide (y < k0) = true := decide_eq_true hly
        have HLo2 : Hid (∀ j y, j < q + 1 → ed[j]? = some y → y < k0) := fun j z hj hz => by
          rcases Nat.lt_or_ge j q with r | r
          · exact HLo.out j z r hz
          · have : j = q := by omega
            rw [this, HY.out] at hz
            have := Option.some.inj hz
            omega
        have htl : (ed.take q).length = q := by rw [List.length_take, HDn.out]; omega
        obtain ⟨a', c', w', hrun, hown', hbel'⟩ := pushP HOV.out htl HBV.out.size y ya yb HYa.out HYb.out (by omega)
        have hts : ed.take (q + 1) = ed.take q ++ [y] := by
          obtain ⟨hl2, he2⟩ := List.getElem?_eq_some_iff.1 HY.out
          rw [List.take_succ_eq_append_getElem hl2, he2]
        have HO2 : Hid (w'.ownsRow V.heap.size 77 2 (.slice a' (q + 1) c') (ed.take (q + 1)).length (prs (ed.take (q + 1)))) := by show World.ownsRow _ _ _ _ _ _ _; rw [hts]; exact hown'
        have HB2 : Hid (Below V.heap.size V w') := HBV.out.trans hbel'
        have HRun : Hid _ := hrun
        refine wpAnyH_take (i := 25) (v := ?_) rfl (by kernel_rfl) (by kernel_rfl) (by kernel_rfl) (fun _ _ _ h => h) (Or.inl ⟨by kernel_rfl, ?_⟩) (by assumption) ?_
        rotate_left
        · (intro w hSw; (try dsimp only at hSw); go_simp) <;> with_reducible rfl
        (try simp only [Act.put, List.getElem_toArray, List.getElem_cons_zero, List.getElem_cons_succ, List.setIfInBounds_toArray, List.set_cons_zero, List.set_cons_succ])
        refine wpAnyH_done (by kernel_rfl) ?_ _
        obtain ⟨c0, d5, p0, p1, x0, x1⟩ := HC.out
        clear hHeld HOV HBV hown' hbel' hrun hts htl HC
        go_wp2_with (at_builtin; refine wpList_append_eq rfl _ _ _ rfl _ _ _ rfl rfl HRun.out ?_)
        go_roundw
        case rel => exact ⟨V, q + 1, a', c', by omega, by go_num, rfl, HLo2, HO2.out, HV, HB2.out⟩
        case measure => simp [intOf]; omega
      · have gl : decide (y < k0) = false := decide_eq_false hly
        have HIn : Hid (insN k0 ed = ed.take q ++ k0 :: ed.drop q) := insN_at HUp.out HLo.out (fun z hz => by
          rw [HY.out] at hz
          have hzy := Option.some.inj hz
          have hm := List.mem_of_getElem? HY.out
          have : y ≠ k0 := fun e => HNk.out (e ▸ hm)
          omega)
        refine wpAnyH_take (i := 25) (v := ?_) rfl (by kernel_rfl) (by kernel_rfl) (by kernel_rfl) (fun _ _ _ h => h) (Or.inl ⟨by kernel_rfl, ?_⟩) (by assumption) ?_
        rotate_left
        · (intro w hSw; (try dsimp only at hSw); go_simp) <;> with_reducible rfl
        (try simp only [Act.put, List.getElem_toArray, List.getElem_cons_zero, List.getElem_cons_succ, List.setIfInBounds_toArray, List.set_cons_zero, List.set_cons_succ])
        refine wpAnyH_done (by kernel_rfl) ?_ _
        obtain ⟨c0, d5, p0, p1, x0, x1⟩ := HC.out
        clear hHeld HC p0 p1
        obtain ⟨a1, c1, w2, a2, c2, a3, c3, w3, hrun1, hs2, hrun2, hc2, hd2, hcc3, hc3, hf3, hset, hru, hbw2⟩ := name_tail HV.out.is HOV.out HBV.out hqd hde HLe.out pp fd k0 HP0.out HP1.out HIn.out
        have HRun1 : Hid _ := hrun1
        have HRun2 : Hid _ := hrun2
        have HSet : Hid _ := hset
        have HRu : Hid _ := hru
        have hSo := rsort_at B c _ _ _ hset (by have := hru.size; have := HV.out.bel.size; omega) (by rw [List.length_set]; have := HLl.out; omega) (fun y hy => by
          rcases List.mem_or_eq_of_mem_set hy with hy | rfl
          · have := HDl.out y hy; omega
          · dsimp only
            rw [HIn.out, List.length_append, List.length_cons, List.length_take, List.length_drop]
            omega)
        have HBB : Hid (B ≤ (w3.setCell ⟨g, i * 6 + 5, none⟩ (.slice a3 (dn + 1) c3)).heap.size) := (show _ ≤ _ by have := hru.size; have := HV.out.bel.size; omega)
        have HWU : Hid (RU B w V) := RU.of_below HV.out.bel hBw
        clear hrun1 hrun2 hset hru HOV HBV
        go_wp2_with (at_builtin; refine wpList_append_eq rfl _ _ _ rfl _ _ _ rfl rfl HRun1.out ?_)
        go_region_law (first
          | (refine step_append_eq rfl (.tmp 65) (.tmp 75) 78 rfl (.slice a1 (q + 1) c1) (.slice a2 (dn - q) c2) (.slice a3 (dn + 1) c3) (by rfl) (by rfl) HRun2.out ?_))
        all_goals
          go_wp2_with fail
          refine hSo.mono ?_
          rintro e2 w4 ⟨rfl, ⟨v', hR2⟩, hu⟩
          have HRU : Hid (RU B w w4) := HWU.out.trans (HRu.out.trans (RU.upd hu HSet.out.head HSet.out.cB HBB.out))
          have HR2 : Hid _ := hR2
          clear hR2 hu hSo
          go_wp2
          go_end0
          exact ⟨rfl, ⟨v', a3, c3, HR2.out⟩, HRU.out⟩
    · have g1 : decide ((q : Int) < (dn : Int)) = false := decide_eq_false (by omega)
      have HIn : Hid (insN k0 ed = ed.take q ++ k0 :: ed.drop q) := insN_at HUp.out HLo.out (fun z hz => by
        have := (List.getElem?_eq_some_iff.1 hz).1
        have := HDn.out
        omega)
      have c0' : wr.drew.cell? ⟨c, 0, none⟩ = some (.slice (some ⟨g, 0, none⟩) ll cap) := c0
      have d5' : wr.drew.cell? ⟨g, i * 6 + 5, none⟩ = some (.slice ea dn ecp) := d5
      have x0' : wr.drew.cell? ⟨w.heap.size, 0, none⟩ = some (.int .i64 pp) := x0
      have x1' : wr.drew.cell? ⟨w.heap.size, 1, none⟩ = some (.int .i64 fd) := x1
      have HOV : Hid (wr.drew.ownsRow V.heap.size 77 2 (.slice a q cp) (ed.take q).length (prs (ed.take q))) := ownsRow_at HO.out (fun _ _ => rfl)
      have HBV : Hid (Below V.heap.size V wr.drew) := HB.out.drew
      clear hR hc hrd hcp hbx hown hb c0 d5 x0 x1 HO HB
      go_wp2_with fail
      refine wp_region_held_drew (S := fun w' => w'.cell? ⟨c, 0, none⟩ = some (.slice (some ⟨g, 0, none⟩) ll cap) ∧ w'.cell? ⟨g, i * 6 + 5, none⟩ = some (.slice ea dn ecp)) (by kernel_rfl) ⟨c0', d5'⟩ (fun hHeld => ?_)
      refine wpAnyH_take (i := 0) (v := ?_) rfl (by kernel_rfl) (by kernel_rfl) (by kernel_rfl) (fun _ _ _ h => h) (Or.inl ⟨by kernel_rfl, ?_⟩) (by assumption) ?_
      rotate_left
      · (intro w hSw; (try dsimp only at hSw); go_simp) <;> with_reducible rfl
      (try simp only [Act.put, List.getElem_toArray, List.getElem_cons_zero, List.setIfInBounds_toArray, List.set_cons_zero, List.set_cons_succ])
      refine wpAnyH_take (i := 1) (v := ?_) rfl (by kernel_rfl) (by kernel_rfl) (by kernel_rfl) (fun _ _ _ h => h) (Or.inl ⟨by kernel_rfl, ?_⟩) (by assumption) ?_
      rotate_left
      · (intro w hSw; (try dsimp only at hSw); go_simp) <;> with_reducible rfl
      (try simp only [Act.put, List.getElem_toArray, List.getElem_cons_zero, List.getElem_cons_succ, List.setIfInBounds_toArray, List.set_cons_zero, List.set_cons_succ])
      refine wpAnyH_take (i := 2) (v := ?_) rfl (by kernel_rfl) (by kernel_rfl) (by kernel_rfl) (fun _ _ _ h => h) (Or.inl ⟨by kernel_rfl, ?_⟩) (by assumption) ?_
      rotate_left
      · (intro w hSw; (try dsimp only at hSw); go_simp) <;> with_reducible rfl
      (try simp only [Act.put, List.getElem_toArray, List.getElem_cons_zero, List.getElem_cons_succ, List.setIfInBounds_toArray, List.set_cons_zero, List.set_cons_succ])
      refine wpAnyH_take (i := 3) (v := ?_) rfl (by kernel_rfl) (by kernel_rfl) (by kernel_rfl) (fun _ _ _ h => h) (Or.inl ⟨by kernel_rfl, ?_⟩) (by assumption) ?_
      rotate_left
      · (intro w hSw; (try dsimp only at hSw); go_simp) <;> with_reducible rfl
      (try simp only [Act.put, List.getElem_toArray, List.getElem_cons_zero, List.getElem_cons_succ, List.setIfInBounds_toArray, List.set_cons_zero, List.set_cons_succ])
      refine wpAnyH_take (i := 4) (v := ?_) rfl (by kernel_rfl) (by kernel_rfl) (by kernel_rfl) (fun _ _ _ h => h) (Or.inl ⟨by kernel_rfl, ?_⟩) (by assumption) ?_
      rotate_left
      · (intro w hSw; (try dsimp only at hSw); go_simp) <;> with_reducible rfl
      (try simp only [Act.put, List.getElem_toArray, List.getElem_cons_zero, List.getElem_cons_succ, List.setIfInBounds_toArray, List.set_cons_zero, List.set_cons_succ])
      refine wpAnyH_take (i := 5) (v := ?_) rfl (by kernel_rfl) (by kernel_rfl) (by kernel_rfl) (fun _ _ _ h => h) (Or.inl ⟨by kernel_rfl, ?_⟩) (by assumption) ?_
      rotate_left
      · (intro w hSw; (try dsimp only at hSw); go_simp) <;> with_reducible rfl
      (try simp only [Act.put, List.getElem_toArray, List.getElem_cons_zero, List.getElem_cons_succ, List.setIfInBounds_toArray, List.set_cons_zero, List.set_cons_succ])
      refine wpAnyH_take (i := 6) (v := ?_) rfl (by kernel_rfl) (by kernel_rfl) (by kernel_rfl) (fun _ _ _ h => h) (Or.inl ⟨by kernel_rfl, ?_⟩) (by assumption) ?_
      rotate_left
      · (intro w hSw; (try dsimp only at hSw); go_simp) <;> with_reducible rfl
      (try simp only [Act.put, List.getElem_toArray, List.getElem_cons_zero, List.getElem_cons_succ, List.setIfInBounds_toArray, List.set_cons_zero, List.set_cons_succ])
      refine wpAnyH_take (i := 7) (v := ?_) rfl (by kernel_rfl) (by kernel_rfl) (by kernel_rfl) (fun _ _ _ h => h) (Or.inl ⟨by kernel_rfl, ?_⟩) (by assumption) ?_
      rotate_left
      · (intro w hSw; (try dsimp only at hSw); go_simp) <;> with_reducible rfl
      (try simp only [Act.put, List.getElem_toArray, List.getElem_cons_zero, List.getElem_cons_succ, List.setIfInBounds_toArray, List.set_cons_zero, List.set_cons_succ])
      refine wpAnyH_take (i := 8) (v := ?_) rfl (by kernel_rfl) (by kernel_rfl) (by kernel_rfl) (fun _ _ _ h => h) (Or.inl ⟨by kernel_rfl, ?_⟩) (by assumption) ?_
      rotate_left
      · (intro w hSw; (try dsimp only at hSw); go_simp) <;> with_reducible rfl
      (try simp only [Act.put, List.getElem_toArray, List.getElem_cons_zero, List.getElem_cons_succ, List.setIfInBounds_toArray, List.set_cons_zero, List.set_cons_succ])
      refine wpAnyH_take (i := 9) (v := ?_) rfl (by kernel_rfl) (by kernel_rfl) (by kernel_rfl) (fun _ _ _ h => h) (Or.inl ⟨by kernel_rfl, ?_⟩) (by assumption) ?_
      rotate_left
      · (intro w hSw; (try dsimp only at hSw); go_simp) <;> with_reducible rfl
      (try simp only [Act.put, List.getElem_toArray, List.getElem_cons_zero, List.getElem_cons_succ, List.setIfInBounds_toArray, List.set_cons_zero, List.set_cons_succ])
      refine wpAnyH_take (i := 10) (v := ?_) rfl (by kernel_rfl) (by kernel_rfl) (by kernel_rfl) (fun _ _ _ h => h) (Or.inl ⟨by kernel_rfl, ?_⟩) (by assumption) ?_
      rotate_left
      · (intro w hSw; (try dsimp only at hSw); go_simp) <;> with_reducible rfl
      (try simp only [Act.put, List.getElem_toArray, List.getElem_cons_zero, List.getElem_cons_succ, List.setIfInBounds_toArray, List.set_cons_zero, List.set_cons_succ])
      refine wpAnyH_take (i := 11) (v := ?_) rfl (by kernel_rfl) (by kernel_rfl) (by kernel_rfl) (fun _ _ _ h => h) (Or.inl ⟨by kernel_rfl, ?_⟩) (by assumption) ?_
      rotate_left
      · (intro w hSw; (try dsimp only at hSw); go_simp) <;> with_reducible rfl
      (try simp only [Act.put, List.getElem_toArray, List.getElem_cons_zero, List.getElem_cons_succ, List.setIfInBounds_toArray, List.set_cons_zero, List.set_cons_succ])
      refine wpAnyH_take (i := 12) (v := undef) rfl (by kernel_rfl) (by kernel_rfl) (by kernel_rfl) (fun _ _ _ h => h) (Or.inr ⟨by kernel_rfl, rfl⟩) (by assumption) ?_
      (try simp only [Act.put, List.getElem_toArray, List.getElem_cons_zero, List.getElem_cons_succ, List.setIfInBounds_toArray, List.set_cons_zero, List.set_cons_succ])
      refine wpAnyH_take (i := 13) (v := undef) rfl (by kernel_rfl) (by kernel_rfl) (by kernel_rfl) (fun _ _ _ h => h) (Or.inr ⟨by kernel_rfl, rfl⟩) (by assumption) ?_
      (try simp only [Act.put, List.getElem_toArray, List.getElem_cons_zero, List.getElem_cons_succ, List.setIfInBounds_toArray, List.set_cons_zero, List.set_cons_succ])
      refine wpAnyH_take (i := 14) (v := undef) rfl (by kernel_rfl) (by kernel_rfl) (by kernel_rfl) (fun _ _ _ h => h) (Or.inr ⟨by kernel_rfl, rfl⟩) (by assumption) ?_
      (try simp only [Act.put, List.getElem_toArray, List.getElem_cons_zero, List.getElem_cons_succ, List.setIfInBounds_toArray, List.set_cons_zero, List.set_cons_succ])
      refine wpAnyH_take (i := 15) (v := undef) rfl (by kernel_rfl) (by kernel_rfl) (by kernel_rfl) (fun _ _ _ h => h) (Or.inr ⟨by kernel_rfl, rfl⟩) (by assumption) ?_
      (try simp only [Act.put, List.getElem_toArray, List.getElem_cons_zero, List.getElem_cons_succ, List.setIfInBounds_toArray, List.set_cons_zero, List.set_cons_succ])
      refine wpAnyH_take (i := 16) (v := undef) rfl (by kernel_rfl) (by kernel_rfl) (by kernel_rfl) (fun _ _ _ h => h) (Or.inr ⟨by kernel_rfl, rfl⟩) (by assumption) ?_
      (try simp only [Act.put, List.getElem_toArray, List.getElem_cons_zero, List.getElem_cons_succ, List.setIfInBounds_toArray, List.set_cons_zero, List.set_cons_succ])
      refine wpAnyH_take (i := 17) (v := undef) rfl (by kernel_rfl) (by kernel_rfl) (by kernel_rfl) (fun _ _ _ h => h) (Or.inr ⟨by kernel_rfl, rfl⟩) (by assumption) ?_
      (try simp only [Act.put, List.getElem_toArray, List.getElem_cons_zero, List.getElem_cons_succ, List.setIfInBounds_toArray, List.set_cons_zero, List.set_cons_succ])
      refine wpAnyH_take (i := 18) (v := undef) rfl (by kernel_rfl) (by kernel_rfl) (by kernel_rfl) (fun _ _ _ h => h) (Or.inr ⟨by kernel_rfl, rfl⟩) (by assumption) ?_
      (try simp only [Act.put, List.getElem_toArray, List.getElem_cons_zero, List.getElem_cons_succ, List.setIfInBounds_toArray, List.set_cons_zero, List.set_cons_succ])
      refine wpAnyH_take (i := 19) (v := undef) rfl (by kernel_rfl) (by kernel_rfl) (by kernel_rfl) (fun _ _ _ h => h) (Or.inr ⟨by kernel_rfl, rfl⟩) (by assumption) ?_
      (try simp only [Act.put, List.getElem_toArray, List.getElem_cons_zero, List.getElem_cons_succ, List.setIfInBounds_toArray, List.set_cons_zero, List.set_cons_succ])
      refine wpAnyH_take (i := 20) (v := undef) rfl (by kernel_rfl) (by kernel_rfl) (by kernel_rfl) (fun _ _ _ h => h) (Or.inr ⟨by kernel_rfl, rfl⟩) (by assumption) ?_
      (try simp only [Act.put, List.getElem_toArray, List.getElem_cons_zero, List.getElem_cons_succ, List.setIfInBounds_toArray, List.set_cons_zero, List.set_cons_succ])
      refine wpAnyH_take (i := 21) (v := undef) rfl (by kernel_rfl) (by kernel_rfl) (by kernel_rfl) (fun _ _ _ h => h) (Or.inr ⟨by kernel_rfl, rfl⟩) (by assumption) ?_
      (try simp only [Act.put, List.getElem_toArray, List.getElem_cons_zero, List.getElem_cons_succ, List.setIfInBounds_toArray, List.set_cons_zero, List.set_cons_succ])
      refine wpAnyH_take (i := 22) (v := undef) rfl (by kernel_rfl) (by kernel_rfl) (by kernel_rfl) (fun _ _ _ h => h) (Or.inr ⟨by kernel_rfl, rfl⟩) (by assumption) ?_
      (try simp only [Act.put, List.getElem_toArray, List.getElem_cons_zero, List.getElem_cons_succ, List.setIfInBounds_toArray, List.set_cons_zero, List.set_cons_succ])
      refine wpAnyH_take (i := 23) (v := undef) rfl (by kernel_rfl) (by kernel_rfl) (by kernel_rfl) (fun _ _ _ h => h) (Or.inr ⟨by kernel_rfl, rfl⟩) (by assumption) ?_
      (try simp only [Act.put, List.getElem_toArray, List.getElem_cons_zero, List.getElem_cons_succ, List.setIfInBounds_toArray, List.set_cons_zero, List.set_cons_succ])
      refine wpAnyH_take (i := 24) (v := undef) rfl (by kernel_rfl) (by kernel_rfl) (by kernel_rfl) (fun _ _ _ h => h) (Or.inr ⟨by kernel_rfl, rfl⟩) (by assumption) ?_
      (try simp only [Act.put, List.getElem_toArray, List.getElem_cons_zero, List.getElem_cons_succ, List.setIfInBounds_toArray, List.set_cons_zero, List.set_cons_succ])
      refine wpAnyH_take (i := 25) (v := ?_) rfl (by kernel_rfl) (by kernel_rfl) (by kernel_rfl) (fun _ _ _ h => h) (Or.inl ⟨by kernel_rfl, ?_⟩) (by assumption) ?_
      rotate_left
      · (intro w hSw; (try dsimp only at hSw); go_simp) <;> with_reducible rfl
      (try simp only [Act.put, List.getElem_toArray, List.getElem_cons_zero, List.getElem_cons_succ, List.setIfInBounds_toArray, List.set_cons_zero, List.set_cons_succ])
      refine wpAnyH_done (by kernel_rfl) ?_ _
      clear hHeld
      generalize wr.drew = w1 at *
      obtain ⟨a1, c1, w2, a2, c2, a3, c3, w3, hrun1, hs2, hrun2, hc2, hd2, hcc3, hc3, hf3, hset, hru, hbw2⟩ := name_tail HV.out.is HOV.out HBV.out hqd hde HLe.out pp fd k0 HP0.out HP1.out HIn.out
      have HRun1 : Hid _ := hrun1
      have HRun2 : Hid _ := hrun2
      have HSet : Hid _ := hset
      have HRu : Hid _ := hru
      have hSo := rsort_at B c _ _ _ hset (by have := hru.size; have := HV.out.bel.size; omega) (by rw [List.length_set]; have := HLl.out; omega) (fun y hy => by
        rcases List.mem_or_eq_of_mem_set hy with hy | rfl
        · have := HDl.out y hy; omega
        · dsimp only
          rw [HIn.out, List.length_append, List.length_cons, List.length_take, List.length_drop]
          omega)
      have HBB : Hid (B ≤ (w3.setCell ⟨g, i * 6 + 5, none⟩ (.slice a3 (dn + 1) c3)).heap.size) := (show _ ≤ _ by have := hru.size; have := HV.out.bel.size; omega)
      have HWU : Hid (RU B w V) := RU.of_below HV.out.bel hBw
      clear hrun1 hrun2 hset hru HOV HBV
      go_wp2_with (at_builtin; refine wpList_append_eq rfl _ _ _ rfl _ _ _ rfl rfl HRun1.out ?_)
      go_region_law (first
        | (refine step_append_eq rfl (.tmp 65) (.tmp 75) 78 rfl (.slice a1 (q + 1) c1) (.slice a2 (dn - q) c2) (.slice a3 (dn + 1) c3) (by rfl) (by rfl) HRun2.out ?_))
      all_goals
        go_wp2_with fail
        refine hSo.mono ?_
        rintro e2 w4 ⟨rfl, ⟨v', hR2⟩, hu⟩
        have HRU : Hid (RU B w w4) := HWU.out.trans (HRu.out.trans (RU.upd hu HSet.out.head HSet.out.cB HBB.out))
        have HR2 : Hid _ := hR2
        clear hR2 hu hSo
        go_wp2
        go_end0
        exact ⟨rfl, ⟨v', a3, c3, HR2.out⟩, HRU.out⟩
end Go.Proofs.Ytkdbmfckfbmbiaa
