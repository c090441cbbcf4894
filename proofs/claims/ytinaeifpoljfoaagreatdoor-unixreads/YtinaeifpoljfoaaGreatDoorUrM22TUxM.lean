import Derived.Test.YtinaeifpoljfoaaGreatDoorUxATUrP22
set_option linter.all false
set_option maxRecDepth 100000
set_option maxHeartbeats 16000000
namespace Go.Proofs.YtinaeifpoljfoaaGreatDoor
open Go.RowKit
def joinU : List (List Int) → List Int
 | [] => []
 | m :: ps => (m.length : Int) :: (m ++ joinU ps)
theorem ptsK_some {k : Nat} {x : Int} {l : List Int} {ps : List (List Int)} {r : List Int} (h : ptsK (k + 1) (x :: l) = some (ps, r)) : x ≤ (l.length : Int) ∧ ∃ qs, ptsK k (l.drop x.toNat) = some (qs, r) ∧ ps = l.take x.toNat :: qs := by
 have h1 : (if (l.length : Int) < x then none else (ptsK k (l.drop x.toNat)).map (fun p => (l.take x.toNat :: p.1, p.2))) = some (ps, r) := h
 by_cases hx : (l.length : Int) < x
 ·rw [if_pos hx] at h1
  cases h1
 ·rw [if_neg hx] at h1
  refine ⟨by omega, ?_⟩
  cases hq : ptsK k (l.drop x.toNat) with
  | none => rw [hq] at h1; cases h1
  | some p =>
   rw [hq] at h1;obtain ⟨qs, s⟩ := p;simp only [Option.map_some, Option.some.injEq, Prod.mk.injEq] at h1;obtain ⟨rfl, rfl⟩ := h1;exact ⟨qs, rfl, rfl⟩
theorem ptsK_mem : ∀ {k : Nat} {l : List Int} {ps : List (List Int)} {r : List Int}, ptsK k l = some (ps, r) → ps.length = k ∧ ∀ m ∈ ps, m.length ≤ l.length ∧ ∀ x ∈ m, x ∈ l
 | 0, l, ps, r, h => by
  cases h
  exact ⟨rfl, fun m hm => by cases hm⟩
 | k + 1, [], ps, r, h => by cases h
 | k + 1, x :: l, ps, r, h => by
  obtain ⟨hx, qs, hq, rfl⟩ := ptsK_some h;obtain ⟨h1, h2⟩ := ptsK_mem hq;refine ⟨by rw [List.length_cons, h1], fun m hm => ?_⟩
  rcases List.mem_cons.1 hm with rfl | hm
  ·refine ⟨by rw [List.length_take, List.length_cons]; omega, fun y hy => List.mem_cons_of_mem _ (List.mem_of_mem_take hy)⟩
  ·obtain ⟨q1, q2⟩ := h2 m hm
   rw [List.length_drop] at q1;exact ⟨by rw [List.length_cons]; omega, fun y hy => List.mem_cons_of_mem _ (List.mem_of_mem_drop (q2 y hy))⟩
theorem ptsK_join : ∀ {k : Nat} {l : List Int} {ps : List (List Int)} {r : List Int}, (∀ x ∈ l, 0 ≤ x) → ptsK k l = some (ps, r) → l = joinU ps ++ r
 | 0, l, ps, r, _, h => by
  cases h
  rfl
 | k + 1, [], ps, r, _, h => by cases h
 | k + 1, x :: l, ps, r, hp, h => by
  obtain ⟨hx, qs, hq, rfl⟩ := ptsK_some h;have h0 := hp x List.mem_cons_self;have ih := ptsK_join (fun y hy => hp y (List.mem_cons_of_mem _ (List.mem_of_mem_drop hy))) hq
  show x :: l = ((l.take x.toNat).length : Int) :: (l.take x.toNat ++ joinU qs) ++ r
  rw [List.cons_append, List.append_assoc, ← ih, List.take_append_drop, List.length_take]
  congr 1
  omega
theorem pts_some {D : List Int} {ps : List (List Int)} (h : pts D = some ps) : ptsK 4 D = some (ps, []) := by
 unfold pts at h
 cases hq : ptsK 4 D with
 | none => rw [hq] at h; cases h
 | some p =>
  rw [hq] at h;obtain ⟨qs, r⟩ := p;have h1 : (if r = [] then some qs else none) = some ps := h
  by_cases hr : r = []
  ·rw [if_pos hr] at h1
   cases h1
   rw [hr]
  ·rw [if_neg hr] at h1
   cases h1
theorem pts_four {D : List Int} {ps : List (List Int)} (h : pts D = some ps) : ∃ l0 l1 l2 l3, ps = [l0, l1, l2, l3] := by
 have h1 := (ptsK_mem (pts_some h)).1
 match ps, h1 with
 | [l0, l1, l2, l3], _ => exact ⟨l0, l1, l2, l3, rfl⟩
theorem pts_u64 {D : List Int} {ps : List (List Int)} (h : pts D = some ps) (hu : Fd.U64 D) : ∀ m ∈ ps, m.length ≤ D.length ∧ Fd.U64 m := fun m hm => by
 obtain ⟨h1, h2⟩ := (ptsK_mem (pts_some h)).2 m hm;exact ⟨h1, fun x hx => hu x (h2 x hx)⟩
theorem pts_join {D : List Int} {ps : List (List Int)} (h : pts D = some ps) (hu : Fd.U64 D) : D = joinU ps := by
 have := ptsK_join (fun x hx => (hu x hx).1) (pts_some h);rw [List.append_nil] at this;exact this
structure XDecI (f : FuncId) (x : List Int → Int) : Prop where
 call : ∀ (a : Option Addr) (n cap : Nat) (l : List Int) (w : World), Ow.Rd w a l → n = l.length → n ≤ cap → Fd.U64 l → n ≤ 3000 → Calls Tryz.prog f #[.slice a n cap] w fun e w' => (∃ p, e = .returned (.tuple #[.pointer p, .int .i64 (x l)])) ∧ Below w.heap.size w w'
def xU (x0 x1 x2 x3 : List Int → Int) (D : List Int) : Int := match pts D with
 | some [l0, l1, l2, l3] => if x0 l0 = 0 ∧ x1 l1 = 0 ∧ x2 l2 = 0 ∧ x3 l3 = 0 then 0 else 101
 | _ => 101
theorem PrO.four {D Dk : List Int} {ps : List (List Int)} (h : PrO D Dk ps 4) : ptsK 4 D = some (ps, Dk) := by
 unfold PrO at h;rw [h]
 show Option.map _ (some ([], Dk)) = _
 simp
theorem PrS.four {w : World} {a0 a1 a2 a3 : Option Addr} {m0 m1 m2 m3 d0 d1 d2 d3 : Nat} {l0 l1 l2 l3 : List Int} (h : PrS w [.slice a0 m0 d0, .slice a1 m1 d1, .slice a2 m2 d2, .slice a3 m3 d3] [l0, l1, l2, l3] 4) : (Ow.Rd w a0 l0 ∧ m0 = l0.length ∧ m0 ≤ d0) ∧ (Ow.Rd w a1 l1 ∧ m1 = l1.length ∧ m1 ≤ d1) ∧ (Ow.Rd w a2 l2 ∧ m2 = l2.length ∧ m2 ≤ d2) ∧ (Ow.Rd w a3 l3 ∧ m3 = l3.length ∧ m3 ≤ d3) := by
 refine ⟨?_, ?_, ?_, ?_⟩
 ·obtain ⟨v, hv, a, n, c, e, h1, h2, h3⟩ := h.part 0 l0 rfl
  cases hv; cases e; exact ⟨h3, h1, h2⟩
 ·obtain ⟨v, hv, a, n, c, e, h1, h2, h3⟩ := h.part 1 l1 rfl
  cases hv; cases e; exact ⟨h3, h1, h2⟩
 ·obtain ⟨v, hv, a, n, c, e, h1, h2, h3⟩ := h.part 2 l2 rfl
  cases hv; cases e; exact ⟨h3, h1, h2⟩
 ·obtain ⟨v, hv, a, n, c, e, h1, h2, h3⟩ := h.part 3 l3 rfl
  cases hv; cases e; exact ⟨h3, h1, h2⟩
theorem xudecode_at {x0 x1 x2 x3 : List Int → Int} (h0 : XDecI 19 x0) (h1 : XDecI 20 x1) (h2 : XDecI 21 x2) (h3 : XDecI 22 x3) (a : Option Addr) (n cap : Nat) (D : List Int) (w : World) (hr : Ow.Rd w a D) (hn : n = D.length) (hcap : n ≤ cap) (hu : Fd.U64 D) (hn9 : n ≤ 3000) :
  Calls Tryz.prog 6 #[.slice a n cap] w fun e w' => (∃ p, e = .returned (.tuple #[.pointer p, .int .i64 (xU x0 x1 x2 x3 D)])) ∧ Below w.heap.size w w' := by
 have HR : Hid (Ow.Rd w a D ∧ Fd.U64 D ∧ n = D.length ∧ n ≤ cap ∧ n ≤ 3000) := ⟨hr, hu, hn, hcap, hn9⟩;clear hr hn hcap hu hn9;obtain ⟨z, hz⟩ : ∃ z, z = xU x0 x1 x2 x3 D := ⟨_, rfl⟩;have HZ := hid hz;rw [← hz];clear hz
 go_enter Tryz.func6, Tryz.ntmps6
 go_upto_region 2 with fail
 obtain ⟨W, hW⟩ : ∃ V, V = w.alloc (.cells #[.slice none 0 0, .slice none 0 0, .slice none 0 0, .slice none 0 0] 52) := ⟨_, rfl⟩
 have HWb : Hid (Below w.heap.size w W) := by rw [hW]; exact below_alloc0 _ _
 have HWp : Hid (W.heap[w.heap.size]? = some (.cells #[.slice none 0 0, .slice none 0 0, .slice none 0 0, .slice none 0 0] 52)) := by rw [hW]; exact heap_alloc_new _ _
 rw [← hW];obtain ⟨p, hp⟩ : ∃ k, k = w.heap.size := ⟨_, rfl⟩;rw [← hp] at HWp ⊢;have Hrp := hid hp;clear hW hp
 go_wp2_with fail
 go_loopw [0, 5] (fun s i wr => ∃ (k : Nat) (ak : Option Addr) (nk ck : Nat) (Dk : List Int) (a0 a1 a2 a3 : Option Addr) (m0 m1 m2 m3 d0 d1 d2 d3 : Nat) (ps : List (List Int)), k ≤ 4 ∧ i = .int .i64 k ∧ s = .slice ak nk ck ∧ Hid (nk = Dk.length ∧ nk ≤ ck ∧ nk ≤ 3000 ∧ Ow.Rd w ak Dk ∧ Fd.U64 Dk ∧ PrO D Dk ps k) ∧ Hid (PrS w [.slice a0 m0 d0, .slice a1 m1 d1, .slice a2 m2 d2, .slice a3 m3 d3] ps k) ∧ Hid (wr.heap[p]? = some (.cells #[.slice a0 m0 d0, .slice a1 m1 d1, .slice a2 m2 d2, .slice a3 m3 d3] 52)) ∧ Hid (Below w.heap.size w wr)) (fun _ i _ => 4 - (intOf i).toNat)
 case atStart => exact ⟨0, a, n, cap, D, _, _, _, _, _, _, _, _, _, _, _, _, [], by omega, rfl, rfl, ⟨HR.out.2.2.1, HR.out.2.2.2.1, HR.out.2.2.2.2, HR.out.1, HR.out.2.1, PrO.start D⟩, PrS.start, HWp.out, HWb.out⟩
 case round =>
  clear HWp HWb;obtain ⟨k, ak, nk, ck, Dk, a0, a1, a2, a3, m0, m1, m2, m3, d0, d1, d2, d3, ps, hk, rfl, rfl, HK, HP, HH, HB⟩ := hrel
  by_cases h4 : k < 4
  ·have g1 : decide ((k : Int) < 4) = true := decide_eq_true (by omega)
   by_cases hk0 : nk = 0
   ·have HN : Hid (z = 101) := by
     have hq := HK.out.2.2.2.2.2.none h4 (Or.inl (List.length_eq_zero_iff.1 (by rw [← HK.out.1]; exact hk0)))
     show _ = _
     rw [HZ.out];unfold xU;rw [hq]
    subst hk0;clear HK;go_wp2
    go_ret2
    rw [HN.out];exact ⟨⟨_, rfl⟩, HB.out⟩
   ·obtain ⟨x, l, hD⟩ : ∃ x l, Dk = x :: l := by
     cases Dk with
     | nil => exact absurd HK.out.1 hk0
     | cons x l => exact ⟨x, l, rfl⟩
    have hx0 := HK.out.2.2.2.2.1 x (by rw [hD]; exact List.mem_cons_self)
    have hl : nk = l.length + 1 := by rw [HK.out.1, hD]; rfl
    obtain ⟨g, off, rfl, hc⟩ := HK.out.2.2.2.1 0 x (by rw [hD]; rfl);have e0 : wr.cell? ⟨g, off, none⟩ = some (.int .u64 x) := (HB.out.cell (cell_lt hc)).trans hc;have g0 : decide ((nk : Int) < 1) = false := decide_eq_false (by omega);have g01 : decide (nk < 1) = false := decide_eq_false (by omega);have g02 : decide (nk = 0) = false := decide_eq_false (by omega)
    have hn1 : (0 : Int) < (nk : Int) := by omega
    have hw1 : wrap64 ((nk : Int) - 1) = (nk : Int) - 1 := by
     have := HK.out.2.2.1;unfold wrap64;omega
    have hwn : IntKind.u64.wrap ((nk : Int) - 1) = (nk : Int) - 1 := by
     have := HK.out.2.2.1;simp [IntKind.wrap, IntKind.bits, IntKind.signed];omega
    by_cases hx : (l.length : Int) < x
    ·have gx : decide ((nk : Int) - 1 < x) = true := decide_eq_true (by omega)
     have HN : Hid (z = 101) := by
      have hq := HK.out.2.2.2.2.2.none h4 (Or.inr ⟨x, l, hD, hx⟩)
      show _ = _
      rw [HZ.out];unfold xU;rw [hq]
     clear HK hc hD hl hx0 hx;go_wp2
     go_ret2
     rw [HN.out];exact ⟨⟨_, rfl⟩, HB.out⟩
    ·have gx : decide ((nk : Int) - 1 < x) = false := decide_eq_false (by omega)
     obtain ⟨m, rfl⟩ : ∃ m : Nat, x = m := ⟨x.toNat, by omega⟩
     have hm : m ≤ l.length := by omega
     have hwx : IntKind.i64.wrap (m : Int) = m := by
      have := HK.out.2.2.1;simp [IntKind.wrap, IntKind.bits, IntKind.signed];omega
     obtain ⟨x1, y1, q1, q2, q3⟩ := Fd.cut_wlh Dk (some ⟨g, off, none⟩) nk ck 1 (1 + m) HK.out.1 (by omega) (by omega) HK.out.2.1;obtain ⟨x2, y2, p1, p2, p3⟩ := Fd.cut_wl Dk (some ⟨g, off, none⟩) nk ck (1 + m) HK.out.1 (by omega) HK.out.2.1;rw [show ((1 : Nat) : Int) = 1 from rfl, show ((1 + m : Nat) : Int) = 1 + (m : Int) by omega, show 1 + m - 1 = m by omega] at q1;rw [show ((1 + m : Nat) : Int) = 1 + (m : Int) by omega] at p1
     have HV : Hid (Prt w (.slice x1 m y1) (l.take m)) := ⟨x1, m, y1, rfl, by rw [List.length_take]; omega, by omega, by
       have := q3 w HK.out.2.2.2.1;rw [hD, Nat.add_comm 1 m, List.take_succ_cons, List.drop_succ_cons, List.drop_zero] at this
       exact this⟩
     have HK2 : Hid (nk - (1 + m) = (l.drop m).length ∧ nk - (1 + m) ≤ y2 ∧ nk - (1 + m) ≤ 3000 ∧ Ow.Rd w x2 (l.drop m) ∧ Fd.U64 (l.drop m) ∧ PrO D (l.drop m) (ps ++ [l.take m]) (k + 1)) := by
      have h1 := p3 w HK.out.2.2.2.1;rw [hD, Nat.add_comm 1 m, List.drop_succ_cons] at h1;have h2 := HK.out.2.2.2.2.2.step h4 hD (by omega);rw [Int.toNat_natCast] at h2;exact ⟨by rw [List.length_drop]; omega, p2, by have := HK.out.2.2.1; omega, h1, fun z hz => HK.out.2.2.2.2.1 z (by rw [hD]; exact List.mem_cons_of_mem _ (List.mem_of_mem_drop hz)), h2⟩
     have HPn' : Hid (PrS w (([.slice a0 m0 d0, .slice a1 m1 d1, .slice a2 m2 d2, .slice a3 m3 d3] : List Value).set k (.slice x1 m y1)) (ps ++ [l.take m]) (k + 1)) := HP.out.step h4 HV.out
     have hs1 : wrap64 (1 + (m : Int)) = 1 + (m : Int) := by
      have := HK.out.2.2.1;unfold wrap64;omega
     clear HK hc hD hl hx0 hx q2 q3 p2 p3 HV HP
     have hk4 : k = 0 ∨ k = 1 ∨ k = 2 ∨ k = 3 := by omega
     rcases hk4 with rfl | rfl | rfl | rfl
     ·have hz : ((0 : Nat) : Int) = 0 := rfl
      have f0 : wr.frozen? ⟨p, 0, none⟩ = false := frozen_of_heap HH.out
      have HS : Hid ((wr.setCell ⟨p, 0, none⟩ (.slice x1 m y1)).heap[p]? = some (.cells #[.slice x1 m y1, .slice a1 m1 d1, .slice a2 m2 d2, .slice a3 m3 d3] 52)) := by rw [cellSet_heap HH.out]; rfl
      have HSb : Hid (Below w.heap.size w (wr.setCell ⟨p, 0, none⟩ (.slice x1 m y1))) := HB.out.trans ((Upd.setCell p 0 wr (.slice x1 m y1)).below (by have h2 := Hrp.out; omega) (by have := HB.out.size; omega));rw [hz]
      have cK : wr.cell? ⟨p, 0, none⟩ = some (.slice a0 m0 d0) := by rw [cell_of_heap HH.out]; rfl
      go_wp2;go_roundw
      case rel => exact ⟨1, x2, nk - (1 + m), y2, l.drop m, x1, a1, a2, a3, m, m1, m2, m3, y1, d1, d2, d3, ps ++ [l.take m], by omega, rfl, rfl, HK2, HPn', HS.out, HSb.out⟩
      case measure => simp [intOf]
     ·have hz : ((1 : Nat) : Int) = 1 := rfl
      have f0 : wr.frozen? ⟨p, 1, none⟩ = false := frozen_of_heap HH.out
      have HS : Hid ((wr.setCell ⟨p, 1, none⟩ (.slice x1 m y1)).heap[p]? = some (.cells #[.slice a0 m0 d0, .slice x1 m y1, .slice a2 m2 d2, .slice a3 m3 d3] 52)) := by rw [cellSet_heap HH.out]; rfl
      have HSb : Hid (Below w.heap.size w (wr.setCell ⟨p, 1, none⟩ (.slice x1 m y1))) := HB.out.trans ((Upd.setCell p 1 wr (.slice x1 m y1)).below (by have h2 := Hrp.out; omega) (by have := HB.out.size; omega));rw [hz]
      have cK : wr.cell? ⟨p, 1, none⟩ = some (.slice a1 m1 d1) := by rw [cell_of_heap HH.out]; rfl
      go_wp2;go_roundw
      case rel => exact ⟨2, x2, nk - (1 + m), y2, l.drop m, a0, x1, a2, a3, m0, m, m2, m3, d0, y1, d2, d3, ps ++ [l.take m], by omega, rfl, rfl, HK2, HPn', HS.out, HSb.out⟩
      case measure => simp [intOf]
     ·have hz : ((2 : Nat) : Int) = 2 := rfl
      have f0 : wr.frozen? ⟨p, 2, none⟩ = false := frozen_of_heap HH.out
      have HS : Hid ((wr.setCell ⟨p, 2, none⟩ (.slice x1 m y1)).heap[p]? = some (.cells #[.slice a0 m0 d0, .slice a1 m1 d1, .slice x1 m y1, .slice a3 m3 d3] 52)) := by rw [cellSet_heap HH.out]; rfl
      have HSb : Hid (Below w.heap.size w (wr.setCell ⟨p, 2, none⟩ (.slice x1 m y1))) := HB.out.trans ((Upd.setCell p 2 wr (.slice x1 m y1)).below (by have h2 := Hrp.out; omega) (by have := HB.out.size; omega));rw [hz]
      have cK : wr.cell? ⟨p, 2, none⟩ = some (.slice a2 m2 d2) := by rw [cell_of_heap HH.out]; rfl
      go_wp2;go_roundw
      case rel => exact ⟨3, x2, nk - (1 + m), y2, l.drop m, a0, a1, x1, a3, m0, m1, m, m3, d0, d1, y1, d3, ps ++ [l.take m], by omega, rfl, rfl, HK2, HPn', HS.out, HSb.out⟩
      case measure => simp [intOf]
     ·have hz : ((3 : Nat) : Int) = 3 := rfl
      have f0 : wr.frozen? ⟨p, 3, none⟩ = false := frozen_of_heap HH.out
      have HS : Hid ((wr.setCell ⟨p, 3, none⟩ (.slice x1 m y1)).heap[p]? = some (.cells #[.slice a0 m0 d0, .slice a1 m1 d1, .slice a2 m2 d2, .slice x1 m y1] 52)) := by rw [cellSet_heap HH.out]; rfl
      have HSb : Hid (Below w.heap.size w (wr.setCell ⟨p, 3, none⟩ (.slice x1 m y1))) := HB.out.trans ((Upd.setCell p 3 wr (.slice x1 m y1)).below (by have h2 := Hrp.out; omega) (by have := HB.out.size; omega));rw [hz]
      have cK : wr.cell? ⟨p, 3, none⟩ = some (.slice a3 m3 d3) := by rw [cell_of_heap HH.out]; rfl
      go_wp2;go_roundw
      case rel => exact ⟨4, x2, nk - (1 + m), y2, l.drop m, a0, a1, a2, x1, m0, m1, m2, m, d0, d1, d2, y1, ps ++ [l.take m], by omega, rfl, rfl, HK2, HPn', HS.out, HSb.out⟩
      case measure => simp [intOf]
  ·obtain rfl : k = 4 := by omega
   have g1 : decide (((4 : Nat) : Int) < 4) = false := by decide
   have hq4 := HK.out.2.2.2.2.2.four
   obtain ⟨l0, l1, l2, l3, rfl⟩ : ∃ l0 l1 l2 l3, ps = [l0, l1, l2, l3] := by
    have hl := HP.out.plen
    match ps, hl with
    | [l0, l1, l2, l3], _ => exact ⟨l0, l1, l2, l3, rfl⟩
   have hmem := (ptsK_mem hq4).2;have hD := HR.out;have hpp := HP.out.four;have R0 : Hid (Ow.Rd w a0 l0 ∧ m0 = l0.length ∧ m0 ≤ d0 ∧ Fd.U64 l0 ∧ m0 ≤ 3000) := ⟨hpp.1.1, hpp.1.2.1, hpp.1.2.2, fun x hx => hD.2.1 x ((hmem l0 (by simp)).2 x hx), by have := (hmem l0 (by simp)).1; have := hpp.1.2.1; omega⟩;have R1 : Hid (Ow.Rd w a1 l1 ∧ m1 = l1.length ∧ m1 ≤ d1 ∧ Fd.U64 l1 ∧ m1 ≤ 3000) := ⟨hpp.2.1.1, hpp.2.1.2.1, hpp.2.1.2.2, fun x hx => hD.2.1 x ((hmem l1 (by simp)).2 x hx), by have := (hmem l1 (by simp)).1; have := hpp.2.1.2.1; omega⟩;have R2 : Hid (Ow.Rd w a2 l2 ∧ m2 = l2.length ∧ m2 ≤ d2 ∧ Fd.U64 l2 ∧ m2 ≤ 3000) := ⟨hpp.2.2.1.1, hpp.2.2.1.2.1, hpp.2.2.1.2.2, fun x hx => hD.2.1 x ((hmem l2 (by simp)).2 x hx), by have := (hmem l2 (by simp)).1; have := hpp.2.2.1.2.1; omega⟩;have R3 : Hid (Ow.Rd w a3 l3 ∧ m3 = l3.length ∧ m3 ≤ d3 ∧ Fd.U64 l3 ∧ m3 ≤ 3000) := ⟨hpp.2.2.2.1, hpp.2.2.2.2.1, hpp.2.2.2.2.2, fun x hx => hD.2.1 x ((hmem l3 (by simp)).2 x hx), by have := (hmem l3 (by simp)).1; have := hpp.2.2.2.2.1; omega⟩
   have hpt : pts D = if Dk = [] then some [l0, l1, l2, l3] else none := by unfold pts; rw [hq4]; rfl
   have HZ2 : Hid (z = if nk = 0 ∧ x0 l0 = 0 ∧ x1 l1 = 0 ∧ x2 l2 = 0 ∧ x3 l3 = 0 then 0 else 101) := by
    show _ = _
    rw [HZ.out];unfold xU;rw [hpt]
    by_cases hk0 : Dk = []
    ·have : nk = 0 := by rw [HK.out.1, hk0]; rfl
     rw [if_pos hk0];simp [this]
    ·have : nk ≠ 0 := fun q => hk0 (List.length_eq_zero_iff.1 (by rw [← HK.out.1]; exact q))
     rw [if_neg hk0, if_neg (fun q => this q.1)]
   have c0 : wr.cell? ⟨p, 0, none⟩ = some (.slice a0 m0 d0) := by rw [cell_of_heap HH.out]; rfl
   have c1 : wr.cell? ⟨p, 1, none⟩ = some (.slice a1 m1 d1) := by rw [cell_of_heap HH.out]; rfl
   have c2 : wr.cell? ⟨p, 2, none⟩ = some (.slice a2 m2 d2) := by rw [cell_of_heap HH.out]; rfl
   have c3 : wr.cell? ⟨p, 3, none⟩ = some (.slice a3 m3 d3) := by rw [cell_of_heap HH.out]; rfl
   have HB0 : Hid (Below w.heap.size w wr) := HB.out;clear hq4 hmem hD hpp hpt HK HP HH HB HZ HR
   go_wp2_with fail
   refine ((h0.call _ _ _ _ _ (R0.out.1.below HB0.out) R0.out.2.1 R0.out.2.2.1 R0.out.2.2.2.1 R0.out.2.2.2.2)).mono ?_;rintro e V1 ⟨⟨p0, rfl⟩, hb⟩;have HB1 : Hid (Below w.heap.size w V1) := HB0.out.trans (hb.mono HB0.out.size);have c1_1 := (hb.cell (cell_lt c1)).trans c1;have c2_1 := (hb.cell (cell_lt c2)).trans c2;have c3_1 := (hb.cell (cell_lt c3)).trans c3;clear hb c0 c1 c2 c3 R0 h0
   go_wp2_with fail
   refine ((h1.call _ _ _ _ _ (R1.out.1.below HB1.out) R1.out.2.1 R1.out.2.2.1 R1.out.2.2.2.1 R1.out.2.2.2.2)).mono ?_;rintro e V2 ⟨⟨p1, rfl⟩, hb⟩;have HB2 : Hid (Below w.heap.size w V2) := HB1.out.trans (hb.mono HB1.out.size);have c2_2 := (hb.cell (cell_lt c2_1)).trans c2_1;have c3_2 := (hb.cell (cell_lt c3_1)).trans c3_1;clear hb c1_1 c2_1 c3_1 R1 h1
   go_wp2_with fail
   refine ((h2.call _ _ _ _ _ (R2.out.1.below HB2.out) R2.out.2.1 R2.out.2.2.1 R2.out.2.2.2.1 R2.out.2.2.2.2)).mono ?_;rintro e V3 ⟨⟨p2, rfl⟩, hb⟩;have HB3 : Hid (Below w.heap.size w V3) := HB2.out.trans (hb.mono HB2.out.size);have c3_3 := (hb.cell (cell_lt c3_2)).trans c3_2;clear hb c2_2 c3_2 R2 h2
   go_wp2_with fail
   refine ((h3.call _ _ _ _ _ (R3.out.1.below HB3.out) R3.out.2.1 R3.out.2.2.1 R3.out.2.2.2.1 R3.out.2.2.2.2)).mono ?_;rintro e V4 ⟨⟨p3, rfl⟩, hb⟩;have HB4 : Hid (Below w.heap.size w V4) := HB3.out.trans (hb.mono HB3.out.size);clear hb c3_3 R3 h3;obtain ⟨e0, he0⟩ : ∃ v, v = x0 l0 := ⟨_, rfl⟩;obtain ⟨e1, he1⟩ : ∃ v, v = x1 l1 := ⟨_, rfl⟩;obtain ⟨e2, he2⟩ : ∃ v, v = x2 l2 := ⟨_, rfl⟩;obtain ⟨e3, he3⟩ : ∃ v, v = x3 l3 := ⟨_, rfl⟩;rw [← he0, ← he1, ← he2, ← he3] at HZ2;rw [← he0, ← he1, ← he2, ← he3];clear he0 he1 he2 he3
   by_cases k0 : nk = 0
   ·have gk : ((nk : Int) != 0) = false := by simpa using k0
    by_cases k1 : e0 = 0
    ·have t0 : (e0 != 0) = false := by simpa using k1
     by_cases k2 : e1 = 0
     ·have t1 : (e1 != 0) = false := by simpa using k2
      by_cases k3 : e2 = 0
      ·have t2 : (e2 != 0) = false := by simpa using k3
       by_cases k4 : e3 = 0
       ·have t3 : (e3 != 0) = false := by simpa using k4
        have HN : Hid (z = 0) := by show _ = _; rw [HZ2.out, if_pos ⟨k0, k1, k2, k3, k4⟩]
        clear k0 k1 k2 k3 k4;go_wp2
        go_ret2
        rw [HN.out];exact ⟨⟨_, rfl⟩, HB4.out.trans ((below_alloc0 _ _).mono HB4.out.size)⟩
       ·have t3 : (e3 != 0) = true := by simpa using k4
        have HN : Hid (z = 101) := by show _ = _; rw [HZ2.out, if_neg (fun q => k4 q.2.2.2.2)]
        clear k0 k1 k2 k3 k4;go_wp2
        go_ret2
        rw [HN.out];exact ⟨⟨_, rfl⟩, HB4.out⟩
      ·have t2 : (e2 != 0) = true := by simpa using k3
       have HN : Hid (z = 101) := by show _ = _; rw [HZ2.out, if_neg (fun q => k3 q.2.2.2.1)]
       clear k0 k1 k2 k3;go_wp2
       go_ret2
       rw [HN.out];exact ⟨⟨_, rfl⟩, HB4.out⟩
     ·have t1 : (e1 != 0) = true := by simpa using k2
      have HN : Hid (z = 101) := by show _ = _; rw [HZ2.out, if_neg (fun q => k2 q.2.2.1)]
      clear k0 k1 k2;go_wp2
      go_ret2
      rw [HN.out];exact ⟨⟨_, rfl⟩, HB4.out⟩
    ·have t0 : (e0 != 0) = true := by simpa using k1
     have HN : Hid (z = 101) := by show _ = _; rw [HZ2.out, if_neg (fun q => k1 q.2.1)]
     clear k0 k1;go_wp2
     go_ret2
     rw [HN.out];exact ⟨⟨_, rfl⟩, HB4.out⟩
   ·have gk : ((nk : Int) != 0) = true := by simpa using k0
    have HN : Hid (z = 101) := by show _ = _; rw [HZ2.out, if_neg (fun q => k0 q.1)]
    clear k0;go_wp2
    go_ret2
    rw [HN.out];exact ⟨⟨_, rfl⟩, HB4.out⟩
def DecG (ok : Bool) (A : World → Nat → Prop) (w : World) (e : Ending) (w' : World) : Prop :=
 ∃ (q : Option Addr) (er : Int), e = .returned (.tuple #[.pointer q, .int .i64 er]) ∧ (ok = true → er = 0 ∧ ∃ b, q = some ⟨b, 0, none⟩ ∧ w.heap.size ≤ b ∧ A w' b) ∧ (ok = false → er = 101 ∧ q = none) ∧ Below w.heap.size w w'
structure DecI (f : FuncId) (ok : List Int → Bool) (A : List Int → World → Nat → Prop) : Prop where
 call : ∀ (a : Option Addr) (n cap : Nat) (l : List Int) (w : World), Ow.Rd w a l → n = l.length → n ≤ cap → Fd.U64 l → n ≤ 3000 → Calls Tryz.prog f #[.slice a n cap] w (DecG (ok l) (A l) w)
 keep : ∀ (l : List Int) (w w' : World) (b : Nat), A l w b → Below w.heap.size w w' → A l w' b
 put : ∀ (l : List Int) (w : World) (b g : Nat) (t : TypeId) (row row' : Array Value), A l w b → w.heap[g]? = some (.cells row t) → (t = 60 ∨ t = 61) → A l (w.setRow g row') b
def okU (o0 o1 o2 o3 : List Int → Bool) (D : List Int) : Bool := match pts D with
 | some [l0, l1, l2, l3] => o0 l0 && (o1 l1 && (o2 l2 && o3 l3))
 | _ => false
theorem four_err {x0 x1 x2 x3 : Int} (h0 : x0 = 0 ∨ x0 = 101) (h1 : x1 = 0 ∨ x1 = 101) (h2 : x2 = 0 ∨ x2 = 101) (h3 : x3 = 0 ∨ x3 = 101) : ∀ V, (binOp .neq 61 (.agg #[.int .i64 x0, .int .i64 x1, .int .i64 x2, .int .i64 x3]) (.agg #[.int .i64 0, .int .i64 0, .int .i64 0, .int .i64 0])).run Tryz.prog V = .ok (.bool (!(x0 == 0 && (x1 == 0 && (x2 == 0 && x3 == 0))))) V := fun V => by
 rcases h0 with rfl | rfl <;> rcases h1 with rfl | rfl <;> rcases h2 with rfl | rfl <;> rcases h3 with rfl | rfl <;> kernel_rfl
theorem udecode_at {o0 o1 o2 o3 : List Int → Bool} {A0 A1 A2 A3 : List Int → World → Nat → Prop} (h0 : DecI 15 o0 A0) (h1 : DecI 16 o1 A1) (h2 : DecI 17 o2 A2) (h3 : DecI 18 o3 A3) (a : Option Addr) (n cap : Nat) (D : List Int) (w : World) (hr : Ow.Rd w a D) (hn : n = D.length) (hcap : n ≤ cap) (hu : Fd.U64 D) (hn9 : n ≤ 3000) :
  Calls Tryz.prog 5 #[.slice a n cap] w fun e w' => (okU o0 o1 o2 o3 D = true → ∃ l0 l1 l2 l3 b b0 b1 b2 b3, pts D = some [l0, l1, l2, l3] ∧ e = .returned (.tuple #[ptr b, .int .i64 0]) ∧ w'.heap[b]? = some (.cells #[ptr b0, ptr b1, ptr b2, ptr b3] 60) ∧ A0 l0 w' b0 ∧ A1 l1 w' b1 ∧ A2 l2 w' b2 ∧ A3 l3 w' b3) ∧ (okU o0 o1 o2 o3 D = false → e = .returned (.tuple #[.pointer none, .int .i64 101])) ∧ Below w.heap.size w w' := by
 have hP := parts_at a n cap D w hr hn hcap hu (by omega);have HR : Hid (Ow.Rd w a D ∧ Fd.U64 D ∧ n = D.length ∧ n ≤ 3000) := ⟨hr, hu, hn, hn9⟩;clear hr hn hcap hu hn9
 go_enter Tryz.func5, Tryz.ntmps5
 go_wp2_with fail
 refine hP.mono ?_;rintro e w1 ⟨a0, a1, a2, a3, m0, m1, m2, m3, d0, d1, d2, d3, b, rfl, hb1, hno, hyes⟩;have HB1 := hid hb1
 cases b with
 | false =>
  have HN : Hid (okU o0 o1 o2 o3 D = false) := by
   show _ = _
   unfold okU;rw [hno rfl]
  clear hno hyes hb1 hP h0 h1 h2 h3;go_wp2
  go_ret2
  exact ⟨(fun q => by rw [HN.out] at q; cases q), fun _ => rfl, HB1.out.trans ((below_alloc0 _ _).mono HB1.out.size)⟩
 | true =>
  obtain ⟨ps, hps, hS⟩ := hyes rfl;obtain ⟨l0, l1, l2, l3, rfl⟩ := pts_four hps;have hmem := pts_u64 hps HR.out.2.1;have hpp := hS.four;have hD := HR.out;have R0 : Hid (Ow.Rd w a0 l0 ∧ m0 = l0.length ∧ m0 ≤ d0 ∧ Fd.U64 l0 ∧ m0 ≤ 3000) := ⟨hpp.1.1, hpp.1.2.1, hpp.1.2.2, (hmem l0 (by simp)).2, by have := (hmem l0 (by simp)).1; have := hpp.1.2.1; omega⟩;have R1 : Hid (Ow.Rd w a1 l1 ∧ m1 = l1.length ∧ m1 ≤ d1 ∧ Fd.U64 l1 ∧ m1 ≤ 3000) := ⟨hpp.2.1.1, hpp.2.1.2.1, hpp.2.1.2.2, (hmem l1 (by simp)).2, by have := (hmem l1 (by simp)).1; have := hpp.2.1.2.1; omega⟩;have R2 : Hid (Ow.Rd w a2 l2 ∧ m2 = l2.length ∧ m2 ≤ d2 ∧ Fd.U64 l2 ∧ m2 ≤ 3000) := ⟨hpp.2.2.1.1, hpp.2.2.1.2.1, hpp.2.2.1.2.2, (hmem l2 (by simp)).2, by have := (hmem l2 (by simp)).1; have := hpp.2.2.1.2.1; omega⟩;have R3 : Hid (Ow.Rd w a3 l3 ∧ m3 = l3.length ∧ m3 ≤ d3 ∧ Fd.U64 l3 ∧ m3 ≤ 3000) := ⟨hpp.2.2.2.1, hpp.2.2.2.2.1, hpp.2.2.2.2.2, (hmem l3 (by simp)).2, by have := (hmem l3 (by simp)).1; have := hpp.2.2.2.2.1; omega⟩;have Hps := hid hps
  have HO : Hid (okU o0 o1 o2 o3 D = (o0 l0 && (o1 l1 && (o2 l2 && o3 l3)))) := by
   show _ = _
   unfold okU;rw [hps]
  clear hno hyes hb1 hP hps hS hmem hpp hD
  go_upto_region 6 with fail
  obtain ⟨W0, hW⟩ : ∃ V, V = ((w1.alloc (.cells #[.slice a0 m0 d0, .slice a1 m1 d1, .slice a2 m2 d2, .slice a3 m3 d3] 52)).alloc (.cells #[.pointer none, .pointer none, .pointer none, .pointer none] 60)).alloc (.cells #[.int .i64 0, .int .i64 0, .int .i64 0, .int .i64 0] 61) := ⟨_, rfl⟩;rw [← hW];obtain ⟨s1, hs1⟩ : ∃ V, V = w1.alloc (.cells #[.slice a0 m0 d0, .slice a1 m1 d1, .slice a2 m2 d2, .slice a3 m3 d3] 52) := ⟨_, rfl⟩;obtain ⟨s2, hs2⟩ : ∃ V, V = s1.alloc (.cells #[.pointer none, .pointer none, .pointer none, .pointer none] 60) := ⟨_, rfl⟩;rw [← hs1, ← hs2] at hW;obtain ⟨q4, hq4⟩ : ∃ k, k = w1.heap.size := ⟨_, rfl⟩;obtain ⟨q6, hq6⟩ : ∃ k, k = w1.heap.size + 1 := ⟨_, rfl⟩;obtain ⟨q7, hq7⟩ : ∃ k, k = w1.heap.size + 1 + 1 := ⟨_, rfl⟩
  have z1 : s1.heap.size = w1.heap.size + 1 := by rw [hs1]; simp
  have z2 : s2.heap.size = w1.heap.size + 1 + 1 := by rw [hs2]; simp [z1]
  have k1 : s1.heap[q4]? = some (.cells #[.slice a0 m0 d0, .slice a1 m1 d1, .slice a2 m2 d2, .slice a3 m3 d3] 52) := by rw [hs1, hq4]; exact heap_alloc_new _ _
  have k2 : s2.heap[q6]? = some (.cells #[.pointer none, .pointer none, .pointer none, .pointer none] 60) := by rw [hs2, hq6, ← z1]; exact heap_alloc_new _ _
  have b2 : Below s1.heap.size s1 s2 := by rw [hs2]; exact below_alloc0 _ _
  have b3 : Below s2.heap.size s2 W0 := by rw [hW]; exact below_alloc0 _ _
  have HE0 : Hid (W0.heap[q7]? = some (.cells #[.int .i64 0, .int .i64 0, .int .i64 0, .int .i64 0] 61)) := by rw [hW, hq7, ← z2]; exact heap_alloc_new _ _
  have HC0 : Hid (W0.heap[q6]? = some (.cells #[.pointer none, .pointer none, .pointer none, .pointer none] 60)) := (b3.block _ (by omega)).trans k2;have HX0 : Hid (W0.heap[q4]? = some (.cells #[.slice a0 m0 d0, .slice a1 m1 d1, .slice a2 m2 d2, .slice a3 m3 d3] 52)) := (b3.block _ (by omega)).trans ((b2.block _ (by omega)).trans k1)
  have HB0 : Hid (Below w.heap.size w W0) := by
   have b1 : Below w1.heap.size w1 s1 := by rw [hs1]; exact below_alloc0 _ _
   have hz := HB1.out.size;exact ((HB1.out.trans (b1.mono hz)).trans (b2.mono (by omega))).trans (b3.mono (by omega))
  have Hq : Hid (q6 = q4 + 1 ∧ q7 = q4 + 2 ∧ w.heap.size ≤ q4) := ⟨by omega, by omega, by have := HB1.out.size; omega⟩;rw [← hq7, ← hq6, ← hq4];clear hW hs1 hs2 hq4 hq6 hq7 z1 z2 k1 k2 b2 b3
  have cX0 : W0.cell? ⟨q4, 0, none⟩ = some (.slice a0 m0 d0) := by rw [cell_of_heap HX0.out]; rfl
  go_wp2_with fail
  refine (h0.call _ _ _ _ _ (R0.out.1.below HB0.out) R0.out.2.1 R0.out.2.2.1 R0.out.2.2.2.1 R0.out.2.2.2.2).mono ?_;rintro e V0 ⟨p0, e0, rfl, ok1, ok2, hb⟩;have VX : Hid (V0.heap[q4]? = some (.cells #[.slice a0 m0 d0, .slice a1 m1 d1, .slice a2 m2 d2, .slice a3 m3 d3] 52)) := (hb.block _ (lt_of_heap HX0.out)).trans HX0.out;have VC : Hid (V0.heap[q6]? = some (.cells #[.pointer none, .pointer none, .pointer none, .pointer none] 60)) := (hb.block _ (lt_of_heap HC0.out)).trans HC0.out;have VE : Hid (V0.heap[q7]? = some (.cells #[.int .i64 0, .int .i64 0, .int .i64 0, .int .i64 0] 61)) := (hb.block _ (lt_of_heap HE0.out)).trans HE0.out;have VB : Hid (Below w.heap.size w V0) := HB0.out.trans (hb.mono HB0.out.size);have VA0 : Hid ((o0 l0 = true → e0 = 0 ∧ ∃ b, p0 = some ⟨b, 0, none⟩ ∧ A0 l0 V0 b) ∧ (o0 l0 = false → e0 = 101)) := ⟨fun q => ⟨(ok1 q).1, by obtain ⟨b, x1, -, x2⟩ := (ok1 q).2; exact ⟨b, x1, x2⟩⟩, fun q => (ok2 q).1⟩
  have c6 : V0.cell? ⟨q6, 0, none⟩ = some (.pointer none) := by rw [cell_of_heap VC.out]; rfl
  have f6 : V0.frozen? ⟨q6, 0, none⟩ = false := frozen_of_heap VC.out;have HW : Hid (V0.setCell ⟨q6, 0, none⟩ (.pointer p0) = V0.setRow q6 #[.pointer p0, .pointer none, .pointer none, .pointer none]) := setCell_eq_setRow V0 q6 _ _ _ _ _ VC.out
  have TE : Hid ((V0.setCell ⟨q6, 0, none⟩ (.pointer p0)).heap[q7]? = some (.cells #[.int .i64 0, .int .i64 0, .int .i64 0, .int .i64 0] 61)) := by rw [Below.heap_setCell _ _ _ _ (show q7 ≠ q6 by have := Hq.out; omega)]; exact VE.out
  have c7 : (V0.setCell ⟨q6, 0, none⟩ (.pointer p0)).cell? ⟨q7, 0, none⟩ = some (.int .i64 0) := by rw [cell_of_heap TE.out]; rfl
  have f7 : (V0.setCell ⟨q6, 0, none⟩ (.pointer p0)).frozen? ⟨q7, 0, none⟩ = false := frozen_of_heap TE.out;have HW2 : Hid ((V0.setCell ⟨q6, 0, none⟩ (.pointer p0)).setCell ⟨q7, 0, none⟩ (.int .i64 e0) = (V0.setCell ⟨q6, 0, none⟩ (.pointer p0)).setRow q7 #[.int .i64 e0, .int .i64 0, .int .i64 0, .int .i64 0]) := setCell_eq_setRow _ q7 _ _ _ _ _ TE.out;clear ok1 ok2 hb cX0
  go_upto_region 7 with fail
  obtain ⟨W1, hW⟩ : ∃ V, V = (V0.setCell ⟨q6, 0, none⟩ (.pointer p0)).setCell ⟨q7, 0, none⟩ (.int .i64 e0) := ⟨_, rfl⟩;rw [← hW]
  have HX1 : Hid (W1.heap[q4]? = some (.cells #[.slice a0 m0 d0, .slice a1 m1 d1, .slice a2 m2 d2, .slice a3 m3 d3] 52)) := by rw [hW, Below.heap_setCell _ _ _ _ (show q4 ≠ q7 by have := Hq.out; omega), Below.heap_setCell _ _ _ _ (show q4 ≠ q6 by have := Hq.out; omega)]; exact VX.out
  have HC1 : Hid (W1.heap[q6]? = some (.cells #[.pointer p0, .pointer none, .pointer none, .pointer none] 60)) := by rw [hW, Below.heap_setCell _ _ _ _ (show q6 ≠ q7 by have := Hq.out; omega), cellSet_heap VC.out]; rfl
  have HE1 : Hid (W1.heap[q7]? = some (.cells #[.int .i64 e0, .int .i64 0, .int .i64 0, .int .i64 0] 61)) := by rw [hW, cellSet_heap TE.out]; rfl
  have HB1 : Hid (Below w.heap.size w W1) := by rw [hW]; exact (VB.out.trans ((Upd.setCell q6 0 V0 (.pointer p0)).below (by have := Hq.out; omega) (by have := VB.out.size; omega))).trans ((Upd.setCell q7 0 _ (.int .i64 e0)).below (by have := Hq.out; omega) (by have := VB.out.size; have := (Upd.setCell q6 0 V0 (.pointer p0)).size; omega))
  have HA0_1 : Hid ((o0 l0 = true → e0 = 0 ∧ ∃ b, p0 = some ⟨b, 0, none⟩ ∧ A0 l0 W1 b) ∧ (o0 l0 = false → e0 = 101)) := ⟨fun q => ⟨(VA0.out.1 q).1, by obtain ⟨b, x1, x2⟩ := (VA0.out.1 q).2; refine ⟨b, x1, ?_⟩; rw [hW, HW2.out]; refine h0.put _ _ _ _ _ _ _ ?_ TE.out (Or.inr rfl); rw [HW.out]; exact h0.put _ _ _ _ _ _ _ x2 VC.out (Or.inl rfl)⟩, VA0.out.2⟩;clear hW HW HW2 c6 f6 c7 f7 TE VX VC VE VB VA0 HX0 HC0 HE0 HB0
  have cX1 : W1.cell? ⟨q4, 1, none⟩ = some (.slice a1 m1 d1) := by rw [cell_of_heap HX1.out]; rfl
  go_wp2_with fail
  refine (h1.call _ _ _ _ _ (R1.out.1.below HB1.out) R1.out.2.1 R1.out.2.2.1 R1.out.2.2.2.1 R1.out.2.2.2.2).mono ?_;rintro e V1 ⟨p1, e1, rfl, ok1, ok2, hb⟩;have VX : Hid (V1.heap[q4]? = some (.cells #[.slice a0 m0 d0, .slice a1 m1 d1, .slice a2 m2 d2, .slice a3 m3 d3] 52)) := (hb.block _ (lt_of_heap HX1.out)).trans HX1.out;have VC : Hid (V1.heap[q6]? = some (.cells #[.pointer p0, .pointer none, .pointer none, .pointer none] 60)) := (hb.block _ (lt_of_heap HC1.out)).trans HC1.out;have VE : Hid (V1.heap[q7]? = some (.cells #[.int .i64 e0, .int .i64 0, .int .i64 0, .int .i64 0] 61)) := (hb.block _ (lt_of_heap HE1.out)).trans HE1.out;have VB : Hid (Below w.heap.size w V1) := HB1.out.trans (hb.mono HB1.out.size);have VA1 : Hid ((o1 l1 = true → e1 = 0 ∧ ∃ b, p1 = some ⟨b, 0, none⟩ ∧ A1 l1 V1 b) ∧ (o1 l1 = false → e1 = 101)) := ⟨fun q => ⟨(ok1 q).1, by obtain ⟨b, x1, -, x2⟩ := (ok1 q).2; exact ⟨b, x1, x2⟩⟩, fun q => (ok2 q).1⟩;have VA0 : Hid ((o0 l0 = true → e0 = 0 ∧ ∃ b, p0 = some ⟨b, 0, none⟩ ∧ A0 l0 V1 b) ∧ (o0 l0 = false → e0 = 101)) := ⟨fun q => ⟨(HA0_1.out.1 q).1, by obtain ⟨b, x1, x2⟩ := (HA0_1.out.1 q).2; exact ⟨b, x1, h0.keep _ _ _ _ x2 hb⟩⟩, HA0_1.out.2⟩
  have c6 : V1.cell? ⟨q6, 1, none⟩ = some (.pointer none) := by rw [cell_of_heap VC.out]; rfl
  have f6 : V1.frozen? ⟨q6, 1, none⟩ = false := frozen_of_heap VC.out;have HW : Hid (V1.setCell ⟨q6, 1, none⟩ (.pointer p1) = V1.setRow q6 #[.pointer p0, .pointer p1, .pointer none, .pointer none]) := setCell_eq_setRow V1 q6 _ _ _ _ _ VC.out
  have TE : Hid ((V1.setCell ⟨q6, 1, none⟩ (.pointer p1)).heap[q7]? = some (.cells #[.int .i64 e0, .int .i64 0, .int .i64 0, .int .i64 0] 61)) := by rw [Below.heap_setCell _ _ _ _ (show q7 ≠ q6 by have := Hq.out; omega)]; exact VE.out
  have c7 : (V1.setCell ⟨q6, 1, none⟩ (.pointer p1)).cell? ⟨q7, 1, none⟩ = some (.int .i64 0) := by rw [cell_of_heap TE.out]; rfl
  have f7 : (V1.setCell ⟨q6, 1, none⟩ (.pointer p1)).frozen? ⟨q7, 1, none⟩ = false := frozen_of_heap TE.out;have HW2 : Hid ((V1.setCell ⟨q6, 1, none⟩ (.pointer p1)).setCell ⟨q7, 1, none⟩ (.int .i64 e1) = (V1.setCell ⟨q6, 1, none⟩ (.pointer p1)).setRow q7 #[.int .i64 e0, .int .i64 e1, .int .i64 0, .int .i64 0]) := setCell_eq_setRow _ q7 _ _ _ _ _ TE.out;clear ok1 ok2 hb cX1
  go_upto_region 8 with fail
  obtain ⟨W2, hW⟩ : ∃ V, V = (V1.setCell ⟨q6, 1, none⟩ (.pointer p1)).setCell ⟨q7, 1, none⟩ (.int .i64 e1) := ⟨_, rfl⟩;rw [← hW]
  have HX2 : Hid (W2.heap[q4]? = some (.cells #[.slice a0 m0 d0, .slice a1 m1 d1, .slice a2 m2 d2, .slice a3 m3 d3] 52)) := by rw [hW, Below.heap_setCell _ _ _ _ (show q4 ≠ q7 by have := Hq.out; omega), Below.heap_setCell _ _ _ _ (show q4 ≠ q6 by have := Hq.out; omega)]; exact VX.out
  have HC2 : Hid (W2.heap[q6]? = some (.cells #[.pointer p0, .pointer p1, .pointer none, .pointer none] 60)) := by rw [hW, Below.heap_setCell _ _ _ _ (show q6 ≠ q7 by have := Hq.out; omega), cellSet_heap VC.out]; rfl
  have HE2 : Hid (W2.heap[q7]? = some (.cells #[.int .i64 e0, .int .i64 e1, .int .i64 0, .int .i64 0] 61)) := by rw [hW, cellSet_heap TE.out]; rfl
  have HB2 : Hid (Below w.heap.size w W2) := by rw [hW]; exact (VB.out.trans ((Upd.setCell q6 1 V1 (.pointer p1)).below (by have := Hq.out; omega) (by have := VB.out.size; omega))).trans ((Upd.setCell q7 1 _ (.int .i64 e1)).below (by have := Hq.out; omega) (by have := VB.out.size; have := (Upd.setCell q6 1 V1 (.pointer p1)).size; omega))
  have HA0_2 : Hid ((o0 l0 = true → e0 = 0 ∧ ∃ b, p0 = some ⟨b, 0, none⟩ ∧ A0 l0 W2 b) ∧ (o0 l0 = false → e0 = 101)) := ⟨fun q => ⟨(VA0.out.1 q).1, by obtain ⟨b, x1, x2⟩ := (VA0.out.1 q).2; refine ⟨b, x1, ?_⟩; rw [hW, HW2.out]; refine h0.put _ _ _ _ _ _ _ ?_ TE.out (Or.inr rfl); rw [HW.out]; exact h0.put _ _ _ _ _ _ _ x2 VC.out (Or.inl rfl)⟩, VA0.out.2⟩;have HA1_2 : Hid ((o1 l1 = true → e1 = 0 ∧ ∃ b, p1 = some ⟨b, 0, none⟩ ∧ A1 l1 W2 b) ∧ (o1 l1 = false → e1 = 101)) := ⟨fun q => ⟨(VA1.out.1 q).1, by obtain ⟨b, x1, x2⟩ := (VA1.out.1 q).2; refine ⟨b, x1, ?_⟩; rw [hW, HW2.out]; refine h1.put _ _ _ _ _ _ _ ?_ TE.out (Or.inr rfl); rw [HW.out]; exact h1.put _ _ _ _ _ _ _ x2 VC.out (Or.inl rfl)⟩, VA1.out.2⟩;clear hW HW HW2 c6 f6 c7 f7 TE VX VC VE VB VA1 HX1 HC1 HE1 HB1 VA0 HA0_1
  have cX2 : W2.cell? ⟨q4, 2, none⟩ = some (.slice a2 m2 d2) := by rw [cell_of_heap HX2.out]; rfl
  go_wp2_with fail
  refine (h2.call _ _ _ _ _ (R2.out.1.below HB2.out) R2.out.2.1 R2.out.2.2.1 R2.out.2.2.2.1 R2.out.2.2.2.2).mono ?_;rintro e V2 ⟨p2, e2, rfl, ok1, ok2, hb⟩;have VX : Hid (V2.heap[q4]? = some (.cells #[.slice a0 m0 d0, .slice a1 m1 d1, .slice a2 m2 d2, .slice a3 m3 d3] 52)) := (hb.block _ (lt_of_heap HX2.out)).trans HX2.out;have VC : Hid (V2.heap[q6]? = some (.cells #[.pointer p0, .pointer p1, .pointer none, .pointer none] 60)) := (hb.block _ (lt_of_heap HC2.out)).trans HC2.out;have VE : Hid (V2.heap[q7]? = some (.cells #[.int .i64 e0, .int .i64 e1, .int .i64 0, .int .i64 0] 61)) := (hb.block _ (lt_of_heap HE2.out)).trans HE2.out;have VB : Hid (Below w.heap.size w V2) := HB2.out.trans (hb.mono HB2.out.size);have VA2 : Hid ((o2 l2 = true → e2 = 0 ∧ ∃ b, p2 = some ⟨b, 0, none⟩ ∧ A2 l2 V2 b) ∧ (o2 l2 = false → e2 = 101)) := ⟨fun q => ⟨(ok1 q).1, by obtain ⟨b, x1, -, x2⟩ := (ok1 q).2; exact ⟨b, x1, x2⟩⟩, fun q => (ok2 q).1⟩;have VA0 : Hid ((o0 l0 = true → e0 = 0 ∧ ∃ b, p0 = some ⟨b, 0, none⟩ ∧ A0 l0 V2 b) ∧ (o0 l0 = false → e0 = 101)) := ⟨fun q => ⟨(HA0_2.out.1 q).1, by obtain ⟨b, x1, x2⟩ := (HA0_2.out.1 q).2; exact ⟨b, x1, h0.keep _ _ _ _ x2 hb⟩⟩, HA0_2.out.2⟩
  have VA1 : Hid ((o1 l1 = true → e1 = 0 ∧ ∃ b, p1 = some ⟨b, 0, none⟩ ∧ A1 l1 V2 b) ∧ (o1 l1 = false → e1 = 101)) := ⟨fun q => ⟨(HA1_2.out.1 q).1, by obtain ⟨b, x1, x2⟩ := (HA1_2.out.1 q).2; exact ⟨b, x1, h1.keep _ _ _ _ x2 hb⟩⟩, HA1_2.out.2⟩
  have c6 : V2.cell? ⟨q6, 2, none⟩ = some (.pointer none) := by rw [cell_of_heap VC.out]; rfl
  have f6 : V2.frozen? ⟨q6, 2, none⟩ = false := frozen_of_heap VC.out;have HW : Hid (V2.setCell ⟨q6, 2, none⟩ (.pointer p2) = V2.setRow q6 #[.pointer p0, .pointer p1, .pointer p2, .pointer none]) := setCell_eq_setRow V2 q6 _ _ _ _ _ VC.out
  have TE : Hid ((V2.setCell ⟨q6, 2, none⟩ (.pointer p2)).heap[q7]? = some (.cells #[.int .i64 e0, .int .i64 e1, .int .i64 0, .int .i64 0] 61)) := by rw [Below.heap_setCell _ _ _ _ (show q7 ≠ q6 by have := Hq.out; omega)]; exact VE.out
  have c7 : (V2.setCell ⟨q6, 2, none⟩ (.pointer p2)).cell? ⟨q7, 2, none⟩ = some (.int .i64 0) := by rw [cell_of_heap TE.out]; rfl
  have f7 : (V2.setCell ⟨q6, 2, none⟩ (.pointer p2)).frozen? ⟨q7, 2, none⟩ = false := frozen_of_heap TE.out;have HW2 : Hid ((V2.setCell ⟨q6, 2, none⟩ (.pointer p2)).setCell ⟨q7, 2, none⟩ (.int .i64 e2) = (V2.setCell ⟨q6, 2, none⟩ (.pointer p2)).setRow q7 #[.int .i64 e0, .int .i64 e1, .int .i64 e2, .int .i64 0]) := setCell_eq_setRow _ q7 _ _ _ _ _ TE.out;clear ok1 ok2 hb cX2
  go_upto_region 9 with fail
  obtain ⟨W3, hW⟩ : ∃ V, V = (V2.setCell ⟨q6, 2, none⟩ (.pointer p2)).setCell ⟨q7, 2, none⟩ (.int .i64 e2) := ⟨_, rfl⟩;rw [← hW]
  have HX3 : Hid (W3.heap[q4]? = some (.cells #[.slice a0 m0 d0, .slice a1 m1 d1, .slice a2 m2 d2, .slice a3 m3 d3] 52)) := by rw [hW, Below.heap_setCell _ _ _ _ (show q4 ≠ q7 by have := Hq.out; omega), Below.heap_setCell _ _ _ _ (show q4 ≠ q6 by have := Hq.out; omega)]; exact VX.out
  have HC3 : Hid (W3.heap[q6]? = some (.cells #[.pointer p0, .pointer p1, .pointer p2, .pointer none] 60)) := by rw [hW, Below.heap_setCell _ _ _ _ (show q6 ≠ q7 by have := Hq.out; omega), cellSet_heap VC.out]; rfl
  have HE3 : Hid (W3.heap[q7]? = some (.cells #[.int .i64 e0, .int .i64 e1, .int .i64 e2, .int .i64 0] 61)) := by rw [hW, cellSet_heap TE.out]; rfl
  have HB3 : Hid (Below w.heap.size w W3) := by rw [hW]; exact (VB.out.trans ((Upd.setCell q6 2 V2 (.pointer p2)).below (by have := Hq.out; omega) (by have := VB.out.size; omega))).trans ((Upd.setCell q7 2 _ (.int .i64 e2)).below (by have := Hq.out; omega) (by have := VB.out.size; have := (Upd.setCell q6 2 V2 (.pointer p2)).size; omega))
  have HA0_3 : Hid ((o0 l0 = true → e0 = 0 ∧ ∃ b, p0 = some ⟨b, 0, none⟩ ∧ A0 l0 W3 b) ∧ (o0 l0 = false → e0 = 101)) := ⟨fun q => ⟨(VA0.out.1 q).1, by obtain ⟨b, x1, x2⟩ := (VA0.out.1 q).2; refine ⟨b, x1, ?_⟩; rw [hW, HW2.out]; refine h0.put _ _ _ _ _ _ _ ?_ TE.out (Or.inr rfl); rw [HW.out]; exact h0.put _ _ _ _ _ _ _ x2 VC.out (Or.inl rfl)⟩, VA0.out.2⟩;have HA1_3 : Hid ((o1 l1 = true → e1 = 0 ∧ ∃ b, p1 = some ⟨b, 0, none⟩ ∧ A1 l1 W3 b) ∧ (o1 l1 = false → e1 = 101)) := ⟨fun q => ⟨(VA1.out.1 q).1, by obtain ⟨b, x1, x2⟩ := (VA1.out.1 q).2; refine ⟨b, x1, ?_⟩; rw [hW, HW2.out]; refine h1.put _ _ _ _ _ _ _ ?_ TE.out (Or.inr rfl); rw [HW.out]; exact h1.put _ _ _ _ _ _ _ x2 VC.out (Or.inl rfl)⟩, VA1.out.2⟩;have HA2_3 : Hid ((o2 l2 = true → e2 = 0 ∧ ∃ b, p2 = some ⟨b, 0, none⟩ ∧ A2 l2 W3 b) ∧ (o2 l2 = false → e2 = 101)) := ⟨fun q => ⟨(VA2.out.1 q).1, by obtain ⟨b, x1, x2⟩ := (VA2.out.1 q).2; refine ⟨b, x1, ?_⟩; rw [hW, HW2.out]; refine h2.put _ _ _ _ _ _ _ ?_ TE.out (Or.inr rfl); rw [HW.out]; exact h2.put _ _ _ _ _ _ _ x2 VC.out (Or.inl rfl)⟩, VA2.out.2⟩;clear hW HW HW2 c6 f6 c7 f7 TE VX VC VE VB VA2 HX2 HC2 HE2 HB2 VA0 HA0_2 VA1 HA1_2
  have cX3 : W3.cell? ⟨q4, 3, none⟩ = some (.slice a3 m3 d3) := by rw [cell_of_heap HX3.out]; rfl
  go_wp2_with fail
  refine (h3.call _ _ _ _ _ (R3.out.1.below HB3.out) R3.out.2.1 R3.out.2.2.1 R3.out.2.2.2.1 R3.out.2.2.2.2).mono ?_;rintro e V3 ⟨p3, e3, rfl, ok1, ok2, hb⟩;have VX : Hid (V3.heap[q4]? = some (.cells #[.slice a0 m0 d0, .slice a1 m1 d1, .slice a2 m2 d2, .slice a3 m3 d3] 52)) := (hb.block _ (lt_of_heap HX3.out)).trans HX3.out;have VC : Hid (V3.heap[q6]? = some (.cells #[.pointer p0, .pointer p1, .pointer p2, .pointer none] 60)) := (hb.block _ (lt_of_heap HC3.out)).trans HC3.out;have VE : Hid (V3.heap[q7]? = some (.cells #[.int .i64 e0, .int .i64 e1, .int .i64 e2, .int .i64 0] 61)) := (hb.block _ (lt_of_heap HE3.out)).trans HE3.out;have VB : Hid (Below w.heap.size w V3) := HB3.out.trans (hb.mono HB3.out.size);have VA3 : Hid ((o3 l3 = true → e3 = 0 ∧ ∃ b, p3 = some ⟨b, 0, none⟩ ∧ A3 l3 V3 b) ∧ (o3 l3 = false → e3 = 101)) := ⟨fun q => ⟨(ok1 q).1, by obtain ⟨b, x1, -, x2⟩ := (ok1 q).2; exact ⟨b, x1, x2⟩⟩, fun q => (ok2 q).1⟩;have VA0 : Hid ((o0 l0 = true → e0 = 0 ∧ ∃ b, p0 = some ⟨b, 0, none⟩ ∧ A0 l0 V3 b) ∧ (o0 l0 = false → e0 = 101)) := ⟨fun q => ⟨(HA0_3.out.1 q).1, by obtain ⟨b, x1, x2⟩ := (HA0_3.out.1 q).2; exact ⟨b, x1, h0.keep _ _ _ _ x2 hb⟩⟩, HA0_3.out.2⟩
  have VA1 : Hid ((o1 l1 = true → e1 = 0 ∧ ∃ b, p1 = some ⟨b, 0, none⟩ ∧ A1 l1 V3 b) ∧ (o1 l1 = false → e1 = 101)) := ⟨fun q => ⟨(HA1_3.out.1 q).1, by obtain ⟨b, x1, x2⟩ := (HA1_3.out.1 q).2; exact ⟨b, x1, h1.keep _ _ _ _ x2 hb⟩⟩, HA1_3.out.2⟩;have VA2 : Hid ((o2 l2 = true → e2 = 0 ∧ ∃ b, p2 = some ⟨b, 0, none⟩ ∧ A2 l2 V3 b) ∧ (o2 l2 = false → e2 = 101)) := ⟨fun q => ⟨(HA2_3.out.1 q).1, by obtain ⟨b, x1, x2⟩ := (HA2_3.out.1 q).2; exact ⟨b, x1, h2.keep _ _ _ _ x2 hb⟩⟩, HA2_3.out.2⟩
  have c6 : V3.cell? ⟨q6, 3, none⟩ = some (.pointer none) := by rw [cell_of_heap VC.out]; rfl
  have f6 : V3.frozen? ⟨q6, 3, none⟩ = false := frozen_of_heap VC.out;have HW : Hid (V3.setCell ⟨q6, 3, none⟩ (.pointer p3) = V3.setRow q6 #[.pointer p0, .pointer p1, .pointer p2, .pointer p3]) := setCell_eq_setRow V3 q6 _ _ _ _ _ VC.out
  have TE : Hid ((V3.setCell ⟨q6, 3, none⟩ (.pointer p3)).heap[q7]? = some (.cells #[.int .i64 e0, .int .i64 e1, .int .i64 e2, .int .i64 0] 61)) := by rw [Below.heap_setCell _ _ _ _ (show q7 ≠ q6 by have := Hq.out; omega)]; exact VE.out
  have c7 : (V3.setCell ⟨q6, 3, none⟩ (.pointer p3)).cell? ⟨q7, 3, none⟩ = some (.int .i64 0) := by rw [cell_of_heap TE.out]; rfl
  have f7 : (V3.setCell ⟨q6, 3, none⟩ (.pointer p3)).frozen? ⟨q7, 3, none⟩ = false := frozen_of_heap TE.out;have HW2 : Hid ((V3.setCell ⟨q6, 3, none⟩ (.pointer p3)).setCell ⟨q7, 3, none⟩ (.int .i64 e3) = (V3.setCell ⟨q6, 3, none⟩ (.pointer p3)).setRow q7 #[.int .i64 e0, .int .i64 e1, .int .i64 e2, .int .i64 e3]) := setCell_eq_setRow _ q7 _ _ _ _ _ TE.out;clear ok1 ok2 hb cX3
  go_upto_region 10 with fail
  obtain ⟨W4, hW⟩ : ∃ V, V = (V3.setCell ⟨q6, 3, none⟩ (.pointer p3)).setCell ⟨q7, 3, none⟩ (.int .i64 e3) := ⟨_, rfl⟩;rw [← hW]
  have HX4 : Hid (W4.heap[q4]? = some (.cells #[.slice a0 m0 d0, .slice a1 m1 d1, .slice a2 m2 d2, .slice a3 m3 d3] 52)) := by rw [hW, Below.heap_setCell _ _ _ _ (show q4 ≠ q7 by have := Hq.out; omega), Below.heap_setCell _ _ _ _ (show q4 ≠ q6 by have := Hq.out; omega)]; exact VX.out
  have HC4 : Hid (W4.heap[q6]? = some (.cells #[.pointer p0, .pointer p1, .pointer p2, .pointer p3] 60)) := by rw [hW, Below.heap_setCell _ _ _ _ (show q6 ≠ q7 by have := Hq.out; omega), cellSet_heap VC.out]; rfl
  have HE4 : Hid (W4.heap[q7]? = some (.cells #[.int .i64 e0, .int .i64 e1, .int .i64 e2, .int .i64 e3] 61)) := by rw [hW, cellSet_heap TE.out]; rfl
  have HB4 : Hid (Below w.heap.size w W4) := by rw [hW]; exact (VB.out.trans ((Upd.setCell q6 3 V3 (.pointer p3)).below (by have := Hq.out; omega) (by have := VB.out.size; omega))).trans ((Upd.setCell q7 3 _ (.int .i64 e3)).below (by have := Hq.out; omega) (by have := VB.out.size; have := (Upd.setCell q6 3 V3 (.pointer p3)).size; omega))
  have HA0_4 : Hid ((o0 l0 = true → e0 = 0 ∧ ∃ b, p0 = some ⟨b, 0, none⟩ ∧ A0 l0 W4 b) ∧ (o0 l0 = false → e0 = 101)) := ⟨fun q => ⟨(VA0.out.1 q).1, by obtain ⟨b, x1, x2⟩ := (VA0.out.1 q).2; refine ⟨b, x1, ?_⟩; rw [hW, HW2.out]; refine h0.put _ _ _ _ _ _ _ ?_ TE.out (Or.inr rfl); rw [HW.out]; exact h0.put _ _ _ _ _ _ _ x2 VC.out (Or.inl rfl)⟩, VA0.out.2⟩;have HA1_4 : Hid ((o1 l1 = true → e1 = 0 ∧ ∃ b, p1 = some ⟨b, 0, none⟩ ∧ A1 l1 W4 b) ∧ (o1 l1 = false → e1 = 101)) := ⟨fun q => ⟨(VA1.out.1 q).1, by obtain ⟨b, x1, x2⟩ := (VA1.out.1 q).2; refine ⟨b, x1, ?_⟩; rw [hW, HW2.out]; refine h1.put _ _ _ _ _ _ _ ?_ TE.out (Or.inr rfl); rw [HW.out]; exact h1.put _ _ _ _ _ _ _ x2 VC.out (Or.inl rfl)⟩, VA1.out.2⟩;have HA2_4 : Hid ((o2 l2 = true → e2 = 0 ∧ ∃ b, p2 = some ⟨b, 0, none⟩ ∧ A2 l2 W4 b) ∧ (o2 l2 = false → e2 = 101)) := ⟨fun q => ⟨(VA2.out.1 q).1, by obtain ⟨b, x1, x2⟩ := (VA2.out.1 q).2; refine ⟨b, x1, ?_⟩; rw [hW, HW2.out]; refine h2.put _ _ _ _ _ _ _ ?_ TE.out (Or.inr rfl); rw [HW.out]; exact h2.put _ _ _ _ _ _ _ x2 VC.out (Or.inl rfl)⟩, VA2.out.2⟩;have HA3_4 : Hid ((o3 l3 = true → e3 = 0 ∧ ∃ b, p3 = some ⟨b, 0, none⟩ ∧ A3 l3 W4 b) ∧ (o3 l3 = false → e3 = 101)) := ⟨fun q => ⟨(VA3.out.1 q).1, by obtain ⟨b, x1, x2⟩ := (VA3.out.1 q).2; refine ⟨b, x1, ?_⟩; rw [hW, HW2.out]; refine h3.put _ _ _ _ _ _ _ ?_ TE.out (Or.inr rfl); rw [HW.out]; exact h3.put _ _ _ _ _ _ _ x2 VC.out (Or.inl rfl)⟩, VA3.out.2⟩
  clear hW HW HW2 c6 f6 c7 f7 TE VX VC VE VB VA3 HX3 HC3 HE3 HB3 VA0 HA0_3 VA1 HA1_3 VA2 HA2_3
  have hf0 : (e0 = 0 ∨ e0 = 101) ∧ (e0 == 0) = o0 l0 := by
   cases ho : o0 l0 with
   | true => have := (HA0_4.out.1 ho).1; subst this; exact ⟨Or.inl rfl, rfl⟩
   | false => have := HA0_4.out.2 ho; subst this; exact ⟨Or.inr rfl, rfl⟩
  have hf1 : (e1 = 0 ∨ e1 = 101) ∧ (e1 == 0) = o1 l1 := by
   cases ho : o1 l1 with
   | true => have := (HA1_4.out.1 ho).1; subst this; exact ⟨Or.inl rfl, rfl⟩
   | false => have := HA1_4.out.2 ho; subst this; exact ⟨Or.inr rfl, rfl⟩
  have hf2 : (e2 = 0 ∨ e2 = 101) ∧ (e2 == 0) = o2 l2 := by
   cases ho : o2 l2 with
   | true => have := (HA2_4.out.1 ho).1; subst this; exact ⟨Or.inl rfl, rfl⟩
   | false => have := HA2_4.out.2 ho; subst this; exact ⟨Or.inr rfl, rfl⟩
  have hf3 : (e3 = 0 ∨ e3 = 101) ∧ (e3 == 0) = o3 l3 := by
   cases ho : o3 l3 with
   | true => have := (HA3_4.out.1 ho).1; subst this; exact ⟨Or.inl rfl, rfl⟩
   | false => have := HA3_4.out.2 ho; subst this; exact ⟨Or.inr rfl, rfl⟩
  have hfe := four_err hf0.1 hf1.1 hf2.1 hf3.1;rw [hf0.2, hf1.2, hf2.2, hf3.2, ← HO.out] at hfe
  have x0 : W4.cell? ⟨q7, 0, none⟩ = some (.int .i64 e0) := by rw [cell_of_heap HE4.out]; rfl
  have x1 : W4.cell? ⟨q7, 1, none⟩ = some (.int .i64 e1) := by rw [cell_of_heap HE4.out]; rfl
  have x2 : W4.cell? ⟨q7, 2, none⟩ = some (.int .i64 e2) := by rw [cell_of_heap HE4.out]; rfl
  have x3 : W4.cell? ⟨q7, 3, none⟩ = some (.int .i64 e3) := by rw [cell_of_heap HE4.out]; rfl
  clear hf0 hf1 hf2 hf3
  cases hk : okU o0 o1 o2 o3 D with
  | false =>
   rw [hk] at hfe;have hfe2 : ∀ V, (binOp .neq 61 (.agg #[.int .i64 e0, .int .i64 e1, .int .i64 e2, .int .i64 e3]) (.agg #[.int .i64 0, .int .i64 0, .int .i64 0, .int .i64 0])).run Tryz.prog V = .ok (.bool true) V := hfe;have Hk := hid hk;clear hk hfe;go_wp2
   go_ret2
   exact ⟨(fun q => by rw [Hk.out] at q; cases q), fun _ => rfl, HB4.out⟩
  | true =>
   have hk2 := HO.out.symm.trans hk;simp only [Bool.and_eq_true] at hk2;rw [hk] at hfe;have hfe2 : ∀ V, (binOp .neq 61 (.agg #[.int .i64 e0, .int .i64 e1, .int .i64 e2, .int .i64 e3]) (.agg #[.int .i64 0, .int .i64 0, .int .i64 0, .int .i64 0])).run Tryz.prog V = .ok (.bool false) V := hfe;obtain ⟨-, b0, rfl, g0⟩ := HA0_4.out.1 hk2.1;obtain ⟨-, b1, rfl, g1⟩ := HA1_4.out.1 hk2.2.1;obtain ⟨-, b2, rfl, g2⟩ := HA2_4.out.1 hk2.2.2.1;obtain ⟨-, b3, rfl, g3⟩ := HA3_4.out.1 hk2.2.2.2;have HG : Hid (A0 l0 W4 b0 ∧ A1 l1 W4 b1 ∧ A2 l2 W4 b2 ∧ A3 l3 W4 b3) := ⟨g0, g1, g2, g3⟩;have Hk := hid hk;clear hk hfe hk2 g0 g1 g2 g3 HA0_4 HA1_4 HA2_4 HA3_4;go_wp2
   go_ret2
   exact ⟨fun _ => ⟨l0, l1, l2, l3, q6, b0, b1, b2, b3, Hps.out, rfl, HC4.out, HG.out⟩, (fun q => by rw [Hk.out] at q; cases q), HB4.out⟩
theorem do_7 {w : World} {L : Pl} {U U' : Un} {o : Ou} (h : UnAt w L U) (s : Value) (pid : Int) (x : Cl) (i : List UInt8) (hx : x.n = 7) (hC : ∀ W, UnAt W L U → Calls Tryz.prog 81 #[.agg (tkR L.c s pid x i)] W (Left L o U' W)) :
  Calls Tryz.prog 36 #[.agg (tkR L.c s pid x i)] w (Left L o U' w) := by
 unfold Left at hC ⊢;obtain ⟨WK, WZ, hWK, hWZ, hB, hyK, hyZ⟩ := blk2 w (tkR L.c s pid x i) 99 (ouR Ou.zero) 96;have HA0 : Hid (UnAt WZ L U) := h.below hB;have HB0 := hid hB;have hz : (#[.int .i64 0, .int .i64 0, .string ⟨#[]⟩, .int .i64 0, .int .i64 0, .string ⟨#[]⟩, .int .i64 0, .bool false] : Array Value) = ouR Ou.zero := rfl;obtain ⟨kb, hKb⟩ : ∃ k, k = w.heap.size := ⟨_, rfl⟩;rw [← hKb] at hyK;have HK := hid hyK;have HKb := hid hKb;have HWK : Hid _ := hWK;obtain ⟨zb, hZb⟩ : ∃ k, k = w.heap.size + 1 := ⟨_, rfl⟩;rw [← hZb] at hyZ;have HZ := hid hyZ;have HZb := hid hZb;have HWZ : Hid _ := hWZ;have HU := hid h;clear hWK hKb hWZ hZb hB h;obtain ⟨cc, hcc⟩ : ∃ c, c = L.c := ⟨_, rfl⟩;rw [← hcc] at HK hyK HWK hC ⊢
 have hk3 : WZ.cell? ⟨kb, 3, none⟩ = some (.int .i64 7) := by rw [cell_of_heap HK.out, ← hx]; rfl
 have hC := hC WZ HA0.out;obtain ⟨R, hR⟩ : ∃ R, R = ouR o := ⟨_, rfl⟩
 have HRs : Hid (R.size = 8) := by rw [hR]; exact ouR_size _
 have HOne : Hid (R.all (·.oneCell') = true) := by rw [hR]; exact ouR_one _
 rw [← hR];rw [← hR] at hC;have HC := hid hC;clear hR hyK hyZ hcc hx hC
 go_enter Tryz.func36, Tryz.ntmps36
 go_upto_region 1 with fail
 rw [← HWK.out, ← HWZ.out];rw [← HZb.out];rw [← HKb.out]
 go_upto_region 15 with fail
 have hC : Calls Tryz.prog 81 #[.agg (tkR cc s pid x i)] WZ fun e w' => e = .returned (.agg R) ∧ UnAt w' L U' ∧ UT L.lo WZ w' := HC.out
 clear HC hk3
 go_wp2_with (first
   | (refine wpList_load_row rfl 99 _ rfl kb rfl 99 (tkR cc s pid x i) (0, 0) _ HK.out Tryz.underlying99 rfl tkSize ?_)
   | fail)
 refine hC.mono ?_;rintro e w1 ⟨rfl, ha1, hu1⟩;have HA1 := hid ha1;have HU1 : Hid (UT L.lo w w1) := (UT.of_below HB0.out).trans hu1;have HZ1 : Hid (w1.heap[zb]? = some (.cells (ouR Ou.zero) 96)) := hu1.other HZ.out rfl;clear hC ha1 hu1;have HM : Hid (w1.heap[zb]? = some (.cells (ouR Ou.zero) 96)) := HZ1.out;have HQ : Hid ((w1.setRow zb R).heap[zb]? = some (.cells R 96)) := setRow_heap _ zb _ _ _ _ HM.out;have HF : Hid (UnAt (w1.setRow zb R) L U' ∧ UT L.lo w (w1.setRow zb R)) := ⟨HA1.out.row HM.out rfl (by decide) (by decide), HU1.out.far (by rw [HZb.out]; omega)⟩
 go_wp2_with (first
   | (refine wpList_store_row rfl 96 _ _ rfl zb R rfl rfl 96 (ouR Ou.zero) HM.out (by rw [HRs.out]; exact ouSize) (by rw [HRs.out]; rfl) HOne.out ?_)
   | go_in)
 exact bodyPost_ret (v := .agg R) (results_cell_row rfl _ _ zb 96 R (0, 0) _ rfl HQ.out Tryz.underlying96 rfl (by rw [HRs.out]; exact ouSize)) rfl ⟨rfl, HF.out⟩
theorem do_8 {w : World} {L : Pl} {U U' : Un} {o : Ou} (h : UnAt w L U) (s : Value) (pid : Int) (x : Cl) (i : List UInt8) (hx : x.n = 8) (hC : ∀ W, UnAt W L U → Calls Tryz.prog 82 #[.agg (tkR L.c s pid x i)] W (Left L o U' W)) :
  Calls Tryz.prog 36 #[.agg (tkR L.c s pid x i)] w (Left L o U' w) := by
 unfold Left at hC ⊢;obtain ⟨WK, WZ, hWK, hWZ, hB, hyK, hyZ⟩ := blk2 w (tkR L.c s pid x i) 99 (ouR Ou.zero) 96;have HA0 : Hid (UnAt WZ L U) := h.below hB;have HB0 := hid hB;have hz : (#[.int .i64 0, .int .i64 0, .string ⟨#[]⟩, .int .i64 0, .int .i64 0, .string ⟨#[]⟩, .int .i64 0, .bool false] : Array Value) = ouR Ou.zero := rfl;obtain ⟨kb, hKb⟩ : ∃ k, k = w.heap.size := ⟨_, rfl⟩;rw [← hKb] at hyK;have HK := hid hyK;have HKb := hid hKb;have HWK : Hid _ := hWK;obtain ⟨zb, hZb⟩ : ∃ k, k = w.heap.size + 1 := ⟨_, rfl⟩;rw [← hZb] at hyZ;have HZ := hid hyZ;have HZb := hid hZb;have HWZ : Hid _ := hWZ;have HU := hid h;clear hWK hKb hWZ hZb hB h;obtain ⟨cc, hcc⟩ : ∃ c, c = L.c := ⟨_, rfl⟩;rw [← hcc] at HK hyK HWK hC ⊢
 have hk3 : WZ.cell? ⟨kb, 3, none⟩ = some (.int .i64 8) := by rw [cell_of_heap HK.out, ← hx]; rfl
 have hC := hC WZ HA0.out;obtain ⟨R, hR⟩ : ∃ R, R = ouR o := ⟨_, rfl⟩
 have HRs : Hid (R.size = 8) := by rw [hR]; exact ouR_size _
 have HOne : Hid (R.all (·.oneCell') = true) := by rw [hR]; exact ouR_one _
 rw [← hR];rw [← hR] at hC;have HC := hid hC;clear hR hyK hyZ hcc hx hC
 go_enter Tryz.func36, Tryz.ntmps36
 go_upto_region 1 with fail
 rw [← HWK.out, ← HWZ.out];rw [← HZb.out];rw [← HKb.out]
 go_upto_region 17 with fail
 have hC : Calls Tryz.prog 82 #[.agg (tkR cc s pid x i)] WZ fun e w' => e = .returned (.agg R) ∧ UnAt w' L U' ∧ UT L.lo WZ w' := HC.out
 clear HC hk3
 go_wp2_with (first
   | (refine wpList_load_row rfl 99 _ rfl kb rfl 99 (tkR cc s pid x i) (0, 0) _ HK.out Tryz.underlying99 rfl tkSize ?_)
   | fail)
 refine hC.mono ?_;rintro e w1 ⟨rfl, ha1, hu1⟩;have HA1 := hid ha1;have HU1 : Hid (UT L.lo w w1) := (UT.of_below HB0.out).trans hu1;have HZ1 : Hid (w1.heap[zb]? = some (.cells (ouR Ou.zero) 96)) := hu1.other HZ.out rfl;clear hC ha1 hu1;have HM : Hid (w1.heap[zb]? = some (.cells (ouR Ou.zero) 96)) := HZ1.out;have HQ : Hid ((w1.setRow zb R).heap[zb]? = some (.cells R 96)) := setRow_heap _ zb _ _ _ _ HM.out;have HF : Hid (UnAt (w1.setRow zb R) L U' ∧ UT L.lo w (w1.setRow zb R)) := ⟨HA1.out.row HM.out rfl (by decide) (by decide), HU1.out.far (by rw [HZb.out]; omega)⟩
 go_wp2_with (first
   | (refine wpList_store_row rfl 96 _ _ rfl zb R rfl rfl 96 (ouR Ou.zero) HM.out (by rw [HRs.out]; exact ouSize) (by rw [HRs.out]; rfl) HOne.out ?_)
   | go_in)
 exact bodyPost_ret (v := .agg R) (results_cell_row rfl _ _ zb 96 R (0, 0) _ rfl HQ.out Tryz.underlying96 rfl (by rw [HRs.out]; exact ouSize)) rfl ⟨rfl, HF.out⟩
theorem do_9 {w : World} {L : Pl} {U U' : Un} {o : Ou} (h : UnAt w L U) (s : Value) (pid : Int) (x : Cl) (i : List UInt8) (hx : x.n = 9) (hC : ∀ W, UnAt W L U → Calls Tryz.prog 83 #[.agg (tkR L.c s pid x i)] W (Left L o U' W)) :
  Calls Tryz.prog 36 #[.agg (tkR L.c s pid x i)] w (Left L o U' w) := by
 unfold Left at hC ⊢;obtain ⟨WK, WZ, hWK, hWZ, hB, hyK, hyZ⟩ := blk2 w (tkR L.c s pid x i) 99 (ouR Ou.zero) 96;have HA0 : Hid (UnAt WZ L U) := h.below hB;have HB0 := hid hB;have hz : (#[.int .i64 0, .int .i64 0, .string ⟨#[]⟩, .int .i64 0, .int .i64 0, .string ⟨#[]⟩, .int .i64 0, .bool false] : Array Value) = ouR Ou.zero := rfl;obtain ⟨kb, hKb⟩ : ∃ k, k = w.heap.size := ⟨_, rfl⟩;rw [← hKb] at hyK;have HK := hid hyK;have HKb := hid hKb;have HWK : Hid _ := hWK;obtain ⟨zb, hZb⟩ : ∃ k, k = w.heap.size + 1 := ⟨_, rfl⟩;rw [← hZb] at hyZ;have HZ := hid hyZ;have HZb := hid hZb;have HWZ : Hid _ := hWZ;have HU := hid h;clear hWK hKb hWZ hZb hB h;obtain ⟨cc, hcc⟩ : ∃ c, c = L.c := ⟨_, rfl⟩;rw [← hcc] at HK hyK HWK hC ⊢
 have hk3 : WZ.cell? ⟨kb, 3, none⟩ = some (.int .i64 9) := by rw [cell_of_heap HK.out, ← hx]; rfl
 have hC := hC WZ HA0.out;obtain ⟨R, hR⟩ : ∃ R, R = ouR o := ⟨_, rfl⟩
 have HRs : Hid (R.size = 8) := by rw [hR]; exact ouR_size _
 have HOne : Hid (R.all (·.oneCell') = true) := by rw [hR]; exact ouR_one _
 rw [← hR];rw [← hR] at hC;have HC := hid hC;clear hR hyK hyZ hcc hx hC
 go_enter Tryz.func36, Tryz.ntmps36
 go_upto_region 1 with fail
 rw [← HWK.out, ← HWZ.out];rw [← HZb.out];rw [← HKb.out]
 go_upto_region 19 with fail
 have hC : Calls Tryz.prog 83 #[.agg (tkR cc s pid x i)] WZ fun e w' => e = .returned (.agg R) ∧ UnAt w' L U' ∧ UT L.lo WZ w' := HC.out
 clear HC hk3
 go_wp2_with (first
   | (refine wpList_load_row rfl 99 _ rfl kb rfl 99 (tkR cc s pid x i) (0, 0) _ HK.out Tryz.underlying99 rfl tkSize ?_)
   | fail)
 refine hC.mono ?_;rintro e w1 ⟨rfl, ha1, hu1⟩;have HA1 := hid ha1;have HU1 : Hid (UT L.lo w w1) := (UT.of_below HB0.out).trans hu1;have HZ1 : Hid (w1.heap[zb]? = some (.cells (ouR Ou.zero) 96)) := hu1.other HZ.out rfl;clear hC ha1 hu1;have HM : Hid (w1.heap[zb]? = some (.cells (ouR Ou.zero) 96)) := HZ1.out;have HQ : Hid ((w1.setRow zb R).heap[zb]? = some (.cells R 96)) := setRow_heap _ zb _ _ _ _ HM.out;have HF : Hid (UnAt (w1.setRow zb R) L U' ∧ UT L.lo w (w1.setRow zb R)) := ⟨HA1.out.row HM.out rfl (by decide) (by decide), HU1.out.far (by rw [HZb.out]; omega)⟩
 go_wp2_with (first
   | (refine wpList_store_row rfl 96 _ _ rfl zb R rfl rfl 96 (ouR Ou.zero) HM.out (by rw [HRs.out]; exact ouSize) (by rw [HRs.out]; rfl) HOne.out ?_)
   | go_in)
 exact bodyPost_ret (v := .agg R) (results_cell_row rfl _ _ zb 96 R (0, 0) _ rfl HQ.out Tryz.underlying96 rfl (by rw [HRs.out]; exact ouSize)) rfl ⟨rfl, HF.out⟩
end Go.Proofs.YtinaeifpoljfoaaGreatDoor
