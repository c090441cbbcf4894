import Derived.Test.YtbhpafgoofkkmaaGreatDoorRxG
import Derived.OwnWalk
import Derived.Deep.QuietTactic
import Derived.BigQuiet
set_option linter.all false
namespace Go.Proofs.YtbhpafgoofkkmaaGreatDoor
open Go.RowKit
theorem grow_rd {w : World} {B : Nat} {v : Value} {a : Option Addr} {c : Nat} {xs ys : List Int} (h : OW w B v xs) (hr : Ip.Rd w a ys) (hl : (xs.length + ys.length) * 8 ≤ 140737488355328) (hB : B ≤ w.heap.size) :
  ∃ a' c' w', (∀ ty, (Builtin.append_ #[27, 27] ty #[v, .slice a ys.length c]).run Tryz.prog w = .ok (.slice a' (xs.length + ys.length) c') w') ∧ OW w' B (.slice a' (xs.length + ys.length) c') (xs ++ ys) ∧ Below B w w' ∧ w.grownBy w' v.ownBlock ∧ ∀ g, (Value.slice a' (xs.length + ys.length) c').ownBlock = some g → v.ownBlock = some g ∨ g = w.heap.size := by
 obtain ⟨i0, hi0, hzz⟩ := Option.map_eq_some_iff.1 Di.wordInfo
 simp only [Prod.mk.injEq] at hzz
 obtain ⟨hz0, hz1, hz2⟩ := hzz
 by_cases hn : ys.length = 0
 ·have : ys = [] := List.length_eq_zero_iff.1 hn
  subst this
  obtain ⟨av, cv, rfl, hcv⟩ := h.form
  refine ⟨av, cv, w, fun ty => ?_, ?_, Below.refl _ _, ⟨rfl, rfl, rfl, Nat.le_refl _, fun _ _ _ => rfl⟩, fun g hg => Or.inl hg⟩
  ·have := Ip.run_append_zero (P := Tryz.prog) w 27 42 i0 Tryz.underlying27 hi0 av a xs.length cv c hcv ty
   simpa using this
  ·simpa using h
 ·obtain ⟨x, hx⟩ : ∃ x, ys[0]? = some x := ⟨ys[0], List.getElem?_eq_getElem (by omega)⟩
  obtain ⟨g, off, rfl, _⟩ := hr 0 x hx
  obtain ⟨g', cap', w', hrun, hown, hgrow, hat, _⟩ := run_append_lies (P := Tryz.prog) w 27 0 B 42 i0 _ 1 8 Tryz.underlying27 hi0 hz0 hz1 hz2 rfl (by omega) v xs.length (uvs xs) h
   ⟨g, off, none⟩ ys.length c (uvs ys) (by rw [uvs_len]; omega) (fun j u hu => by
     obtain ⟨y, hy, rfl⟩ := uvs_get hu
     obtain ⟨g2, off2, e, hc⟩ := hr j y hy
     simp only [Option.some.injEq, Addr.mk.injEq] at e
     obtain ⟨rfl, rfl, _⟩ := e
     rw [add0]
     exact hc) (uvs_one ys) (by omega) (by unfold maxLen; omega) (by omega) hB _ rfl
  have e1 : (xs ++ ys).length = xs.length + ys.length := List.length_append
  have e2 : uvs (xs ++ ys) = uvs xs ++ uvs ys := by simp [uvs]
  refine ⟨some ⟨g', 0, none⟩, cap', w', fun ty => hrun, by unfold OW; rw [e1, e2]; exact hown, below_grown hgrow hB (ownsRow_low h), hgrow, fun q hq => ?_⟩
  have : g' = q := by simpa [Value.ownBlock] using hq
  subst this
  exact hat
def recvX (S : XS) (e : Int) : XS × List Int × Int := match Ip.qat S.Q e with
 | [] => (S, [], 106)
 | m :: _ => ({ S with Q := Ip.recvQ S.Q e }, m.fr :: m.ws, 0)
theorem recvX_nil {S : XS} {e : Int} (h : Ip.qat S.Q e = []) : recvX S e = (S, [], 106) := by unfold recvX; rw [h]
theorem recvX_cons {S : XS} {e : Int} {m : Ip.Mg} {R : List Ip.Mg} (h : Ip.qat S.Q e = m :: R) : recvX S e = ({ S with Q := Ip.recvQ S.Q e }, m.fr :: m.ws, 0) := by unfold recvX; rw [h]
set_option maxRecDepth 100000 in
set_option maxHeartbeats 2000000 in
theorem s_12 {w : World} {X : Nat} {Y : RxL} {k : Nat} {S : XS} (h : RefX w X Y k S) (hk : k ≤ 800) (e a b d : Int) (hm : ∀ m ∈ Ip.qat S.Q e, 0 ≤ m.fr ∧ m.fr < 12 ∧ m.ws.length ≤ 8) (av : Option Addr) (nv cv : Nat) :
  Calls Tryz.prog 33 #[ptr X, .int .i64 e, .int .u64 12, .agg #[.int .i64 a, .int .i64 b, .int .i64 d], .slice av nv cv] w (RDid X Y k S.n w (recvX S e)) := by
 obtain ⟨W, hW⟩ : ∃ W, W = w.alloc (.cells #[.int .i64 a, .int .i64 b, .int .i64 d] 91) := ⟨_, rfl⟩
 have hbW : Below w.heap.size w W := by rw [hW]; exact Ca.below_alloc _ _
 have hRW : RefX W X Y k S := h.below hbW
 have HUW : Hid (UpdP (RP X Y S.n) w W) := UpdP.of_below hbW
 have HW : Hid (W = w.alloc (.cells #[.int .i64 a, .int .i64 b, .int .i64 d] 91)) := hW
 have hop := x_recv hRW hk e
 have HR : Hid _ := hRW
 have HM : Hid _ := hm
 clear hW hbW h hRW hm
 go_enter Tryz.func33, Tryz.ntmps33
 go_wp2_with fail
 rw [← HW.out]
 clear HW
 refine hop.mono ?_
 rintro x w1 (⟨hq, rfl, hw⟩ | ⟨m, R, aw, cw, hq, rfl, hrd, hR1, hu1⟩)
 ·rw [hw]
  have HQ : Hid (recvX S e = (S, [], 106)) := recvX_nil hq
  clear hw w1 hop hq
  generalize recvX S e = rx at *
  go_wp2
  go_ret2
  rw [HQ.out]
  exact ⟨none, 0, 0, rfl, RdV.nil _ _ _, HR.out.mono (Nat.le_succ k), HUW.out⟩
 ·obtain ⟨m0, m1, m2⟩ := HM.out m (by rw [hq]; exact List.mem_cons_self ..)
  have hwf : IntKind.u64.wrap m.fr = m.fr := by
   simp [IntKind.wrap, IntKind.bits, IntKind.signed]
   omega
  obtain ⟨Z, hZ⟩ : ∃ Z, Z = w1.alloc (.cells #[.int .u64 m.fr] 42) := ⟨_, rfl⟩
  have hbZ : Below w1.heap.size w1 Z := by rw [hZ]; exact Ca.below_alloc _ _
  have hoZ : OW Z w1.heap.size (.slice (some ⟨w1.heap.size, 0, none⟩) 1 1) [m.fr] := ow_block (by rw [hZ]; exact heap_alloc_new _ _) (Nat.le_refl _) rfl (by omega)
  obtain ⟨a3, c3, w3, hrun, ho3, hb3, _, _⟩ := grow_rd (c := cw) hoZ (hrd.below hbZ) (by simp; omega) hbZ.size
  have hrun2 : ∀ ty, (Builtin.append_ #[27, 27] ty #[.slice (some ⟨w1.heap.size, 0, none⟩) 1 1, .slice aw m.ws.length cw]).run Tryz.prog Z = .ok (.slice a3 (1 + m.ws.length) c3) w3 := hrun
  have HQ : Hid (recvX S e = ({ S with Q := Ip.recvQ S.Q e }, m.fr :: m.ws, 0)) := recvX_cons hq
  have HD : Hid (RDid X Y k S.n w ({ S with Q := Ip.recvQ S.Q e }, m.fr :: m.ws, 0) (.returned (.tuple #[.slice a3 (1 + m.ws.length) c3, .int .i64 0])) w3) :=
   ⟨_, _, _, rfl, ho3.urow.rdv, hR1.below (hbZ.trans hb3), (HUW.out.trans hu1).trans (UpdP.of_below (hbZ.trans hb3))⟩
  have HRun : Hid _ := hrun2
  have HZ : Hid _ := hZ
  clear hop hq hR1 hu1 hbZ hoZ hrun hrun2 ho3 hb3 hZ m0 m1 m2 hrd
  generalize recvX S e = rx at *
  generalize m.ws.length = N at *
  generalize m.fr = mf at *
  go_wp2_with (at_builtin; rw [← HZ.out]; refine Ip.wpList_append_eq rfl _ _ _ rfl _ _ _ rfl rfl HRun.out ?_)
  go_ret2
  rw [HQ.out]
  exact HD.out
end Go.Proofs.YtbhpafgoofkkmaaGreatDoor
namespace Go.Proofs.YtbhpafgoofkkmaaGreatDoor
open Go.RowKit
set_option maxHeartbeats 2000000 in
theorem shape_at (c : Nat) (hc : c < 18) (w : World) :
  Calls Tryz.prog 32 #[.int .u64 (c : Int)] w fun x w' => x = .returned (.tuple #[.int .i64 ((fS c + fL c : Nat) : Int), .int .i64 ((fS c + fM c : Nat) : Int), .int .i64 ((fS c : Nat) : Int)]) ∧ w' = w := by
 have cases18 : c = 0 ∨ c = 1 ∨ c = 2 ∨ c = 3 ∨ c = 4 ∨ c = 5 ∨ c = 6 ∨ c = 7 ∨ c = 8 ∨ c = 9 ∨ c = 10 ∨ c = 11 ∨ c = 12 ∨ c = 13 ∨ c = 14 ∨ c = 15 ∨ c = 16 ∨ c = 17 := by omega
 rcases cases18 with rfl | rfl | rfl | rfl | rfl | rfl | rfl | rfl | rfl | rfl | rfl | rfl | rfl | rfl | rfl | rfl | rfl | rfl
 all_goals
  go_enter Tryz.func32, Tryz.ntmps32
  go_wp2
  go_ret3
  exact ⟨rfl, rfl⟩
theorem shape_big (x : Int) (hx : 18 ≤ x) (w : World) :
  Calls Tryz.prog 32 #[.int .u64 x] w fun y w' => y = .returned (.tuple #[.int .i64 (-1), .int .i64 (-1), .int .i64 0]) ∧ w' = w := by
 have h0 : (x == 0) = false := beq_false_of_ne (by omega)
 have h1 : (x == 1) = false := beq_false_of_ne (by omega)
 have h2 : (x == 2) = false := beq_false_of_ne (by omega)
 have h3 : (x == 3) = false := beq_false_of_ne (by omega)
 have h4 : (x == 4) = false := beq_false_of_ne (by omega)
 have h5 : (x == 5) = false := beq_false_of_ne (by omega)
 have h6 : (x == 6) = false := beq_false_of_ne (by omega)
 have h7 : (x == 7) = false := beq_false_of_ne (by omega)
 have h8 : (x == 8) = false := beq_false_of_ne (by omega)
 have h9 : (x == 9) = false := beq_false_of_ne (by omega)
 have h10 : (x == 10) = false := beq_false_of_ne (by omega)
 have h11 : (x == 11) = false := beq_false_of_ne (by omega)
 have h12 : (x == 12) = false := beq_false_of_ne (by omega)
 have h13 : (x == 13) = false := beq_false_of_ne (by omega)
 have h14 : (x == 14) = false := beq_false_of_ne (by omega)
 have h15 : (x == 15) = false := beq_false_of_ne (by omega)
 have h16 : (x == 16) = false := beq_false_of_ne (by omega)
 have h17 : (x == 17) = false := beq_false_of_ne (by omega)
 go_enter Tryz.func32, Tryz.ntmps32
 go_wp2
 go_ret3
 exact ⟨rfl, rfl⟩
end Go.Proofs.YtbhpafgoofkkmaaGreatDoor
namespace Go.Proofs.YtbhpafgoofkkmaaGreatDoor
open Go.RowKit
def pickX (b : Bool) (r q : XS × List Int × Int) : XS × List Int × Int := if b = true then r else q
theorem pickX_yes {b : Bool} {r q : XS × List Int × Int} (h : b = true) : pickX b r q = r := by unfold pickX; rw [if_pos h]
theorem pickX_no {b : Bool} {r q : XS × List Int × Int} (h : b = false) : pickX b r q = q := by unfold pickX; rw [h]; rfl
set_option maxRecDepth 100000 in
set_option maxHeartbeats 4000000 in
theorem rr_d1 {w : World} {X : Nat} {Y : RxL} {k : Nat} {S : XS} (h : RefX w X Y k S) (e : Int) (g o n cap c s lo hi g1 o1 : Nat) (rest : List Int) (hI : En.isB S.E e = true) (h0 : w.cell? ⟨g, o, none⟩ = some (.int .u64 c)) (hn : n + 1 ≤ cap) (hs : s ≤ 3) (hsn : lo ≤ n → s ≤ n)
 (hsh : ∀ W, Calls Tryz.prog 32 #[.int .u64 (c : Int)] W fun x w' => x = .returned (.tuple #[.int .i64 (lo : Int), .int .i64 (hi : Int), .int .i64 (s : Int)]) ∧ w' = W)
 (hcut : ∀ V : World, (Instr.slice 27 (.slice (some ⟨g, o, none⟩) (n + 1) cap) (some (.int .i64 1)) none none).run Tryz.prog V = .ok (.slice (some ⟨g1, o1, none⟩) n (cap - 1)) V)
 (hrl : rest.length = n) (hrc : ∀ (j : Nat) (x : Int), rest[j]? = some x → w.cell? ⟨g1, o1 + j, none⟩ = some (.int .u64 x) ∧ 0 ≤ x) (k1 : ((c : Int) == 1) = false) (k14 : ((c : Int) == 14) = false) (k11 : ((c : Int) == 11) = false) (k4 : ((c : Int) == 4) = false) (k12 : decide ((12 : Int) ≤ (c : Int)) = false) (r : XS × List Int × Int)
 (hC : ∀ W, Below w.heap.size w W → lo ≤ n → n ≤ hi → (∀ j y, j < s → rest[j]? = some y → y < 2147483648) → Calls Tryz.prog 34 #[ptr X, .int .i64 e, .int .u64 c, .agg #[.int .i64 (sm rest s 0), .int .i64 (sm rest s 1), .int .i64 (sm rest s 2)], .slice (some ⟨g1, o1, none⟩) n (cap - 1)] W (RDid X Y k S.n W r)) :
  Calls Tryz.prog 10 #[ptr X, .int .i64 e, .slice (some ⟨g, o, none⟩) (n + 1) cap] w fun x w' => ((n < lo ∨ hi < n ∨ (∃ j y, j < s ∧ rest[j]? = some y ∧ 2147483648 ≤ y)) ∧ RDid X Y k S.n w (S, [], 101) x w') ∨ ((lo ≤ n ∧ n ≤ hi ∧ ∀ j y, j < s → rest[j]? = some y → y < 2147483648) ∧ RDid X Y k S.n w r x w') := by
 have hIs := x_is h e
 rw [hI] at hIs
 have z2 := h.c2
 have i1 : decide ((n : Int) + 1 < 1) = false := decide_eq_false (by omega)
 have i2 : decide ((lo : Int) < 0) = false := decide_eq_false (by omega)
 have i3 : (0 : Int) < (n : Int) + 1 := by omega
 have HR : Hid _ := h
 have HC : Hid _ := hC
 have HRL : Hid (rest.length = n) := hrl
 have HRC : Hid (∀ (j : Nat) (x : Int), rest[j]? = some x → w.cell? ⟨g1, o1 + j, none⟩ = some (.int .u64 x) ∧ 0 ≤ x) := hrc
 have H0 : Hid (w.cell? ⟨g, o, none⟩ = some (.int .u64 c)) := h0
 have HN : Hid (lo ≤ n → s ≤ n) := hsn
 have hSh := hsh w
 have HRef : Hid (∀ W, Below w.heap.size w W → ∀ (x : Ending), x = .returned (.tuple #[.slice none 0 0, .int .i64 101]) → RDid X Y k S.n w (S, [], 101) x W) := fun W hb x hx => ⟨none, 0, 0, hx, RdV.nil _ _ _, (h.below hb).mono (Nat.le_succ k), UpdP.of_below hb⟩
 clear h hI hC hrl hrc hsh hsn
 go_enter Tryz.func10, Tryz.ntmps10
 go_wp2_with fail
 refine hIs.mono ?_
 rintro x w1 ⟨rfl, hw⟩
 rw [hw]
 clear hw w1 hIs
 go_wp2_with fail
 refine hSh.mono ?_
 rintro x w1 ⟨rfl, hw⟩
 rw [hw]
 clear hw w1 hSh
 by_cases d1 : n < lo
 ·have q1 : decide ((n : Int) < (lo : Int)) = true := decide_eq_true (by omega)
  go_wp2
  go_ret2
  exact Or.inl ⟨Or.inl d1, HRef.out _ (Below.refl _ _) _ rfl⟩
 have q1 : decide ((n : Int) < (lo : Int)) = false := decide_eq_false (by omega)
 by_cases d2 : hi < n
 ·have q2 : decide ((hi : Int) < (n : Int)) = true := decide_eq_true (by omega)
  go_wp2
  go_ret2
  exact Or.inl ⟨Or.inr (Or.inl d2), HRef.out _ (Below.refl _ _) _ rfl⟩
 have q2 : decide ((hi : Int) < (n : Int)) = false := decide_eq_false (by omega)
 have hsn := HN.out (by omega)
 obtain ⟨A, hA⟩ : ∃ A, A = w.alloc (.cells #[.int .i64 0, .int .i64 0, .int .i64 0] 91) := ⟨_, rfl⟩
 have HAb : Hid (Below w.heap.size w A) := by rw [hA]; exact Ca.below_alloc _ _
 have HAA : Hid (A.heap[w.heap.size]? = some (.cells (smRow rest 0) 91)) := by rw [hA]; exact heap_alloc_new _ _
 have HA : Hid _ := hA
 clear hA
 go_wp2
 rw [← HA.out]
 clear HA z2 h0
 obtain ⟨A0, hA0⟩ : ∃ A0, A0 = w.heap.size := ⟨_, rfl⟩
 rw [← hA0] at HAA ⊢
 have HA0 : Hid (A0 = w.heap.size) := hA0
 clear hA0
 go_loopw [13] (fun s' wr => ∃ (i : Nat), i ≤ s ∧ s' = .int .i64 i ∧ Hid (wr.heap[A0]? = some (.cells (smRow rest i) 91)) ∧ Hid (Below w.heap.size w wr) ∧ Hid (∀ j y, j < i → rest[j]? = some y → y < 2147483648)) (fun s' _ => s - (intOf s').toNat)
 case atStart => exact ⟨0, by omega, rfl, HAA, HAb, fun j y hj => absurd hj (Nat.not_lt_zero _)⟩
 case round =>
  clear HAA HAb
  obtain ⟨i, hi', rfl, HAk, HB, HSM⟩ := hrel
  by_cases hlt : i < s
  ·obtain ⟨x, hx⟩ : ∃ x, rest[i]? = some x := ⟨rest[i]'(by rw [HRL.out]; omega), List.getElem?_eq_getElem _⟩
   obtain ⟨c0, x0⟩ := HRC.out i x hx
   have c1 := (HB.out.cell (cell_lt c0)).trans c0
   have HX : Hid (rest[i]? = some x) := hx
   have gi : (i : Int) < (s : Int) := by omega
   have gn : (i : Int) < (n : Int) := by omega
   clear hx c0
   by_cases hbig : 2147483648 ≤ x
   ·go_wp2
    go_ret2
    exact Or.inl ⟨Or.inr (Or.inr ⟨i, x, hlt, HX.out, hbig⟩), HRef.out _ HB.out _ rfl⟩
   ·have hwx : IntKind.i64.wrap x = x := by rw [IntKind.wrap_i64]; omega
    obtain ⟨y, hy⟩ := smRow_cell HAk.out i (by omega)
    have hfz : wr.frozen? ⟨A0, i, none⟩ = false := frozen_of_heap HAk.out
    have hk3 : (i : Int) < 3 := by omega
    have hk3n : i < 3 := by omega
    go_wp2
    go_roundw
    case rel =>
     refine ⟨i + 1, by omega, by go_num, ?_, below_set HB.out (Nat.le_of_eq HA0.out.symm), ?_⟩
     ·show _ = _
      rw [setCell_eq_setRow _ _ _ _ _ _ _ HAk.out, setRow_heap _ _ _ _ _ _ HAk.out, smRow_set HX.out (by omega)]
     ·intro j z hj hz
      by_cases e : j = i
      ·subst e
       rw [HX.out] at hz
       cases hz
       omega
      ·exact HSM.out j z (by omega) hz
    case measure => simp [intOf]; omega
  ·have hks : i = s := by omega
   have gi : ¬ (i : Int) < (s : Int) := by omega
   rw [hks] at HAk HSM
   have c0 := (HB.out.cell (cell_lt H0.out)).trans H0.out
   obtain ⟨s0, s1, s2⟩ := three_cells HAk.out
   have hRr := HR.out.below HB.out
   have z2 := hRr.c2
   have HGood : Hid (lo ≤ n ∧ n ≤ hi ∧ ∀ j y, j < s → rest[j]? = some y → y < 2147483648) := ⟨by omega, by omega, HSM.out⟩
   have hCC := fun q => HC.out (wr.drewN q) (below_drewN HB.out q) HGood.out.1 HGood.out.2.1 HGood.out.2.2
   have HRr : Hid _ := hRr
   clear hks hRr HR HC
   generalize hs0 : sm rest s 0 = a0 at *
   generalize hs1 : sm rest s 1 = a1 at *
   generalize hs2 : sm rest s 2 = a2 at *
   have HE : Hid (sm rest s 0 = a0 ∧ sm rest s 1 = a1 ∧ sm rest s 2 = a2) := ⟨hs0, hs1, hs2⟩
   clear hs0 hs1 hs2
   go_wp2_with fail
   go_quiet (fail)
   go_wp2_with fail
   refine (hCC _).mono ?_
   rintro x w5 ⟨a5, m5, c5, rfl, hr5, hR5, hu5⟩
   have HD : Hid (RDid X Y k S.n w r (.returned (.tuple #[.slice a5 m5 c5, .int .i64 r.2.2])) w5) := ⟨a5, m5, c5, rfl, hr5, hR5, (UpdP.of_below (below_drewN HB.out _)).trans hu5⟩
   clear hr5 hR5 hu5 hCC
   generalize r.2.2 = rr at *
   go_wp2
   go_ret2
   exact Or.inr ⟨HGood.out, HD.out⟩
set_option maxRecDepth 100000 in
set_option maxHeartbeats 4000000 in
theorem rr_d2 {w : World} {X : Nat} {Y : RxL} {k : Nat} {S : XS} (h : RefX w X Y k S) (e : Int) (g o n cap c s lo hi g1 o1 : Nat) (rest : List Int) (hI : En.isB S.E e = true) (h0 : w.cell? ⟨g, o, none⟩ = some (.int .u64 c)) (hn : n + 1 ≤ cap) (hs : s ≤ 3) (hsn : lo ≤ n → s ≤ n)
 (hsh : ∀ W, Calls Tryz.prog 32 #[.int .u64 (c : Int)] W fun x w' => x = .returned (.tuple #[.int .i64 (lo : Int), .int .i64 (hi : Int), .int .i64 (s : Int)]) ∧ w' = W)
 (hcut : ∀ V : World, (Instr.slice 27 (.slice (some ⟨g, o, none⟩) (n + 1) cap) (some (.int .i64 1)) none none).run Tryz.prog V = .ok (.slice (some ⟨g1, o1, none⟩) n (cap - 1)) V)
 (hrl : rest.length = n) (hrc : ∀ (j : Nat) (x : Int), rest[j]? = some x → w.cell? ⟨g1, o1 + j, none⟩ = some (.int .u64 x) ∧ 0 ≤ x) (k1 : ((c : Int) == 1) = false) (k14 : ((c : Int) == 14) = false) (k11 : ((c : Int) == 11) = false) (k4 : ((c : Int) == 4) = false) (k12 : decide ((12 : Int) ≤ (c : Int)) = true) (r : XS × List Int × Int)
 (hC : ∀ W, Below w.heap.size w W → lo ≤ n → n ≤ hi → (∀ j y, j < s → rest[j]? = some y → y < 2147483648) → Calls Tryz.prog 33 #[ptr X, .int .i64 e, .int .u64 c, .agg #[.int .i64 (sm rest s 0), .int .i64 (sm rest s 1), .int .i64 (sm rest s 2)], .slice (some ⟨g1, o1, none⟩) n (cap - 1)] W (RDid X Y k S.n W r)) :
  Calls Tryz.prog 10 #[ptr X, .int .i64 e, .slice (some ⟨g, o, none⟩) (n + 1) cap] w fun x w' => ((n < lo ∨ hi < n ∨ (∃ j y, j < s ∧ rest[j]? = some y ∧ 2147483648 ≤ y)) ∧ RDid X Y k S.n w (S, [], 101) x w') ∨ ((lo ≤ n ∧ n ≤ hi ∧ ∀ j y, j < s → rest[j]? = some y → y < 2147483648) ∧ RDid X Y k S.n w r x w') := by
 have hIs := x_is h e
 rw [hI] at hIs
 have z2 := h.c2
 have i1 : decide ((n : Int) + 1 < 1) = false := decide_eq_false (by omega)
 have i2 : decide ((lo : Int) < 0) = false := decide_eq_false (by omega)
 have i3 : (0 : Int) < (n : Int) + 1 := by omega
 have HR : Hid _ := h
 have HC : Hid _ := hC
 have HRL : Hid (rest.length = n) := hrl
 have HRC : Hid (∀ (j : Nat) (x : Int), rest[j]? = some x → w.cell? ⟨g1, o1 + j, none⟩ = some (.int .u64 x) ∧ 0 ≤ x) := hrc
 have H0 : Hid (w.cell? ⟨g, o, none⟩ = some (.int .u64 c)) := h0
 have HN : Hid (lo ≤ n → s ≤ n) := hsn
 have hSh := hsh w
 have HRef : Hid (∀ W, Below w.heap.size w W → ∀ (x : Ending), x = .returned (.tuple #[.slice none 0 0, .int .i64 101]) → RDid X Y k S.n w (S, [], 101) x W) := fun W hb x hx => ⟨none, 0, 0, hx, RdV.nil _ _ _, (h.below hb).mono (Nat.le_succ k), UpdP.of_below hb⟩
 clear h hI hC hrl hrc hsh hsn
 go_enter Tryz.func10, Tryz.ntmps10
 go_wp2_with fail
 refine hIs.mono ?_
 rintro x w1 ⟨rfl, hw⟩
 rw [hw]
 clear hw w1 hIs
 go_wp2_with fail
 refine hSh.mono ?_
 rintro x w1 ⟨rfl, hw⟩
 rw [hw]
 clear hw w1 hSh
 by_cases d1 : n < lo
 ·have q1 : decide ((n : Int) < (lo : Int)) = true := decide_eq_true (by omega)
  go_wp2
  go_ret2
  exact Or.inl ⟨Or.inl d1, HRef.out _ (Below.refl _ _) _ rfl⟩
 have q1 : decide ((n : Int) < (lo : Int)) = false := decide_eq_false (by omega)
 by_cases d2 : hi < n
 ·have q2 : decide ((hi : Int) < (n : Int)) = true := decide_eq_true (by omega)
  go_wp2
  go_ret2
  exact Or.inl ⟨Or.inr (Or.inl d2), HRef.out _ (Below.refl _ _) _ rfl⟩
 have q2 : decide ((hi : Int) < (n : Int)) = false := decide_eq_false (by omega)
 have hsn := HN.out (by omega)
 obtain ⟨A, hA⟩ : ∃ A, A = w.alloc (.cells #[.int .i64 0, .int .i64 0, .int .i64 0] 91) := ⟨_, rfl⟩
 have HAb : Hid (Below w.heap.size w A) := by rw [hA]; exact Ca.below_alloc _ _
 have HAA : Hid (A.heap[w.heap.size]? = some (.cells (smRow rest 0) 91)) := by rw [hA]; exact heap_alloc_new _ _
 have HA : Hid _ := hA
 clear hA
 go_wp2
 rw [← HA.out]
 clear HA z2 h0
 obtain ⟨A0, hA0⟩ : ∃ A0, A0 = w.heap.size := ⟨_, rfl⟩
 rw [← hA0] at HAA ⊢
 have HA0 : Hid (A0 = w.heap.size) := hA0
 clear hA0
 go_loopw [13] (fun s' wr => ∃ (i : Nat), i ≤ s ∧ s' = .int .i64 i ∧ Hid (wr.heap[A0]? = some (.cells (smRow rest i) 91)) ∧ Hid (Below w.heap.size w wr) ∧ Hid (∀ j y, j < i → rest[j]? = some y → y < 2147483648)) (fun s' _ => s - (intOf s').toNat)
 case atStart => exact ⟨0, by omega, rfl, HAA, HAb, fun j y hj => absurd hj (Nat.not_lt_zero _)⟩
 case round =>
  clear HAA HAb
  obtain ⟨i, hi', rfl, HAk, HB, HSM⟩ := hrel
  by_cases hlt : i < s
  ·obtain ⟨x, hx⟩ : ∃ x, rest[i]? = some x := ⟨rest[i]'(by rw [HRL.out]; omega), List.getElem?_eq_getElem _⟩
   obtain ⟨c0, x0⟩ := HRC.out i x hx
   have c1 := (HB.out.cell (cell_lt c0)).trans c0
   have HX : Hid (rest[i]? = some x) := hx
   have gi : (i : Int) < (s : Int) := by omega
   have gn : (i : Int) < (n : Int) := by omega
   clear hx c0
   by_cases hbig : 2147483648 ≤ x
   ·go_wp2
    go_ret2
    exact Or.inl ⟨Or.inr (Or.inr ⟨i, x, hlt, HX.out, hbig⟩), HRef.out _ HB.out _ rfl⟩
   ·have hwx : IntKind.i64.wrap x = x := by rw [IntKind.wrap_i64]; omega
    obtain ⟨y, hy⟩ := smRow_cell HAk.out i (by omega)
    have hfz : wr.frozen? ⟨A0, i, none⟩ = false := frozen_of_heap HAk.out
    have hk3 : (i : Int) < 3 := by omega
    have hk3n : i < 3 := by omega
    go_wp2
    go_roundw
    case rel =>
     refine ⟨i + 1, by omega, by go_num, ?_, below_set HB.out (Nat.le_of_eq HA0.out.symm), ?_⟩
     ·show _ = _
      rw [setCell_eq_setRow _ _ _ _ _ _ _ HAk.out, setRow_heap _ _ _ _ _ _ HAk.out, smRow_set HX.out (by omega)]
     ·intro j z hj hz
      by_cases e : j = i
      ·subst e
       rw [HX.out] at hz
       cases hz
       omega
      ·exact HSM.out j z (by omega) hz
    case measure => simp [intOf]; omega
  ·have hks : i = s := by omega
   have gi : ¬ (i : Int) < (s : Int) := by omega
   rw [hks] at HAk HSM
   have c0 := (HB.out.cell (cell_lt H0.out)).trans H0.out
   obtain ⟨s0, s1, s2⟩ := three_cells HAk.out
   have hRr := HR.out.below HB.out
   have z2 := hRr.c2
   have HGood : Hid (lo ≤ n ∧ n ≤ hi ∧ ∀ j y, j < s → rest[j]? = some y → y < 2147483648) := ⟨by omega, by omega, HSM.out⟩
   have hCC := fun q => HC.out (wr.drewN q) (below_drewN HB.out q) HGood.out.1 HGood.out.2.1 HGood.out.2.2
   have HRr : Hid _ := hRr
   clear hks hRr HR HC
   generalize hs0 : sm rest s 0 = a0 at *
   generalize hs1 : sm rest s 1 = a1 at *
   generalize hs2 : sm rest s 2 = a2 at *
   have HE : Hid (sm rest s 0 = a0 ∧ sm rest s 1 = a1 ∧ sm rest s 2 = a2) := ⟨hs0, hs1, hs2⟩
   clear hs0 hs1 hs2
   go_wp2_with fail
   go_quiet (fail)
   go_wp2_with fail
   refine (hCC _).mono ?_
   rintro x w5 ⟨a5, m5, c5, rfl, hr5, hR5, hu5⟩
   have HD : Hid (RDid X Y k S.n w r (.returned (.tuple #[.slice a5 m5 c5, .int .i64 r.2.2])) w5) := ⟨a5, m5, c5, rfl, hr5, hR5, (UpdP.of_below (below_drewN HB.out _)).trans hu5⟩
   clear hr5 hR5 hu5 hCC
   generalize r.2.2 = rr at *
   go_wp2
   go_ret2
   exact Or.inr ⟨HGood.out, HD.out⟩
end Go.Proofs.YtbhpafgoofkkmaaGreatDoor
namespace Go.Proofs.YtbhpafgoofkkmaaGreatDoor
open Go.RowKit
set_option maxRecDepth 100000 in
set_option maxHeartbeats 4000000 in
theorem rr_a1 {w : World} {X : Nat} {Y : RxL} {k : Nat} {S : XS} (h : RefX w X Y k S) (e : Int) (g o n cap c s lo hi g1 o1 : Nat) (rest : List Int) (hI : En.isB S.E e = true) (h0 : w.cell? ⟨g, o, none⟩ = some (.int .u64 c)) (hn : n + 1 ≤ cap) (hs : s ≤ 3) (hsn : lo ≤ n → s ≤ n)
 (hsh : ∀ W, Calls Tryz.prog 32 #[.int .u64 (c : Int)] W fun x w' => x = .returned (.tuple #[.int .i64 (lo : Int), .int .i64 (hi : Int), .int .i64 (s : Int)]) ∧ w' = W)
 (hcut : ∀ V : World, (Instr.slice 27 (.slice (some ⟨g, o, none⟩) (n + 1) cap) (some (.int .i64 1)) none none).run Tryz.prog V = .ok (.slice (some ⟨g1, o1, none⟩) n (cap - 1)) V)
 (hrl : rest.length = n) (hrc : ∀ (j : Nat) (x : Int), rest[j]? = some x → w.cell? ⟨g1, o1 + j, none⟩ = some (.int .u64 x) ∧ 0 ≤ x) (k1 : ((c : Int) == 1) = true) (k11 : ((c : Int) == 11) = false) (k4 : ((c : Int) == 4) = false) (k12 : decide ((12 : Int) ≤ (c : Int)) = false) (r : XS × List Int × Int)
 (hC : ∀ W, Below w.heap.size w W → lo ≤ n → n ≤ hi → (∀ j y, j < s → rest[j]? = some y → y < 2147483648) → Calls Tryz.prog 34 #[ptr X, .int .i64 e, .int .u64 c, .agg #[.int .i64 (sm rest s 0), .int .i64 (sm rest s 1), .int .i64 (sm rest s 2)], .slice (some ⟨g1, o1, none⟩) n (cap - 1)] W (RDid X Y k S.n W r)) :
  Calls Tryz.prog 10 #[ptr X, .int .i64 e, .slice (some ⟨g, o, none⟩) (n + 1) cap] w fun x w' => ((n < lo ∨ hi < n ∨ (∃ j y, j < s ∧ rest[j]? = some y ∧ 2147483648 ≤ y)) ∧ RDid X Y k S.n w (S, [], 101) x w') ∨ ((lo ≤ n ∧ n ≤ hi ∧ ∀ j y, j < s → rest[j]? = some y → y < 2147483648) ∧ RDid X Y k S.n w (pickX (En.isB S.E (sm rest s 1)) r (S, [], 101)) x w') := by
 have hIs := x_is h e
 rw [hI] at hIs
 have z2 := h.c2
 have i1 : decide ((n : Int) + 1 < 1) = false := decide_eq_false (by omega)
 have i2 : decide ((lo : Int) < 0) = false := decide_eq_false (by omega)
 have i3 : (0 : Int) < (n : Int) + 1 := by omega
 have HR : Hid _ := h
 have HC : Hid _ := hC
 have HRL : Hid (rest.length = n) := hrl
 have HRC : Hid (∀ (j : Nat) (x : Int), rest[j]? = some x → w.cell? ⟨g1, o1 + j, none⟩ = some (.int .u64 x) ∧ 0 ≤ x) := hrc
 have H0 : Hid (w.cell? ⟨g, o, none⟩ = some (.int .u64 c)) := h0
 have HN : Hid (lo ≤ n → s ≤ n) := hsn
 have hSh := hsh w
 have HRef : Hid (∀ W, Below w.heap.size w W → ∀ (x : Ending), x = .returned (.tuple #[.slice none 0 0, .int .i64 101]) → RDid X Y k S.n w (S, [], 101) x W) := fun W hb x hx => ⟨none, 0, 0, hx, RdV.nil _ _ _, (h.below hb).mono (Nat.le_succ k), UpdP.of_below hb⟩
 clear h hI hC hrl hrc hsh hsn
 go_enter Tryz.func10, Tryz.ntmps10
 go_wp2_with fail
 refine hIs.mono ?_
 rintro x w1 ⟨rfl, hw⟩
 rw [hw]
 clear hw w1 hIs
 go_wp2_with fail
 refine hSh.mono ?_
 rintro x w1 ⟨rfl, hw⟩
 rw [hw]
 clear hw w1 hSh
 by_cases d1 : n < lo
 ·have q1 : decide ((n : Int) < (lo : Int)) = true := decide_eq_true (by omega)
  go_wp2
  go_ret2
  exact Or.inl ⟨Or.inl d1, HRef.out _ (Below.refl _ _) _ rfl⟩
 have q1 : decide ((n : Int) < (lo : Int)) = false := decide_eq_false (by omega)
 by_cases d2 : hi < n
 ·have q2 : decide ((hi : Int) < (n : Int)) = true := decide_eq_true (by omega)
  go_wp2
  go_ret2
  exact Or.inl ⟨Or.inr (Or.inl d2), HRef.out _ (Below.refl _ _) _ rfl⟩
 have q2 : decide ((hi : Int) < (n : Int)) = false := decide_eq_false (by omega)
 have hsn := HN.out (by omega)
 obtain ⟨A, hA⟩ : ∃ A, A = w.alloc (.cells #[.int .i64 0, .int .i64 0, .int .i64 0] 91) := ⟨_, rfl⟩
 have HAb : Hid (Below w.heap.size w A) := by rw [hA]; exact Ca.below_alloc _ _
 have HAA : Hid (A.heap[w.heap.size]? = some (.cells (smRow rest 0) 91)) := by rw [hA]; exact heap_alloc_new _ _
 have HA : Hid _ := hA
 clear hA
 go_wp2
 rw [← HA.out]
 clear HA z2 h0
 obtain ⟨A0, hA0⟩ : ∃ A0, A0 = w.heap.size := ⟨_, rfl⟩
 rw [← hA0] at HAA ⊢
 have HA0 : Hid (A0 = w.heap.size) := hA0
 clear hA0
 go_loopw [13] (fun s' wr => ∃ (i : Nat), i ≤ s ∧ s' = .int .i64 i ∧ Hid (wr.heap[A0]? = some (.cells (smRow rest i) 91)) ∧ Hid (Below w.heap.size w wr) ∧ Hid (∀ j y, j < i → rest[j]? = some y → y < 2147483648)) (fun s' _ => s - (intOf s').toNat)
 case atStart => exact ⟨0, by omega, rfl, HAA, HAb, fun j y hj => absurd hj (Nat.not_lt_zero _)⟩
 case round =>
  clear HAA HAb
  obtain ⟨i, hi', rfl, HAk, HB, HSM⟩ := hrel
  by_cases hlt : i < s
  ·obtain ⟨x, hx⟩ : ∃ x, rest[i]? = some x := ⟨rest[i]'(by rw [HRL.out]; omega), List.getElem?_eq_getElem _⟩
   obtain ⟨c0, x0⟩ := HRC.out i x hx
   have c1 := (HB.out.cell (cell_lt c0)).trans c0
   have HX : Hid (rest[i]? = some x) := hx
   have gi : (i : Int) < (s : Int) := by omega
   have gn : (i : Int) < (n : Int) := by omega
   clear hx c0
   by_cases hbig : 2147483648 ≤ x
   ·go_wp2
    go_ret2
    exact Or.inl ⟨Or.inr (Or.inr ⟨i, x, hlt, HX.out, hbig⟩), HRef.out _ HB.out _ rfl⟩
   ·have hwx : IntKind.i64.wrap x = x := by rw [IntKind.wrap_i64]; omega
    obtain ⟨y, hy⟩ := smRow_cell HAk.out i (by omega)
    have hfz : wr.frozen? ⟨A0, i, none⟩ = false := frozen_of_heap HAk.out
    have hk3 : (i : Int) < 3 := by omega
    have hk3n : i < 3 := by omega
    go_wp2
    go_roundw
    case rel =>
     refine ⟨i + 1, by omega, by go_num, ?_, below_set HB.out (Nat.le_of_eq HA0.out.symm), ?_⟩
     ·show _ = _
      rw [setCell_eq_setRow _ _ _ _ _ _ _ HAk.out, setRow_heap _ _ _ _ _ _ HAk.out, smRow_set HX.out (by omega)]
     ·intro j z hj hz
      by_cases e : j = i
      ·subst e
       rw [HX.out] at hz
       cases hz
       omega
      ·exact HSM.out j z (by omega) hz
    case measure => simp [intOf]; omega
  ·have hks : i = s := by omega
   have gi : ¬ (i : Int) < (s : Int) := by omega
   rw [hks] at HAk HSM
   have c0 := (HB.out.cell (cell_lt H0.out)).trans H0.out
   obtain ⟨s0, s1, s2⟩ := three_cells HAk.out
   have hRr := HR.out.below HB.out
   have z2 := hRr.c2
   have HGood : Hid (lo ≤ n ∧ n ≤ hi ∧ ∀ j y, j < s → rest[j]? = some y → y < 2147483648) := ⟨by omega, by omega, HSM.out⟩
   have hCC := fun q => HC.out (wr.drewN q) (below_drewN HB.out q) HGood.out.1 HGood.out.2.1 HGood.out.2.2
   have HRr : Hid _ := hRr
   clear hks hRr HR HC
   generalize hs0 : sm rest s 0 = a0 at *
   generalize hs1 : sm rest s 1 = a1 at *
   generalize hs2 : sm rest s 2 = a2 at *
   have HE : Hid (sm rest s 0 = a0 ∧ sm rest s 1 = a1 ∧ sm rest s 2 = a2) := ⟨hs0, hs1, hs2⟩
   clear hs0 hs1 hs2
   have hIs2 := fun q => x_is (HRr.out.below (below_drewN (Below.refl _ wr) q)) a1
   cases hb : En.isB S.E a1 with
   | true =>
    have HP : Hid (En.isB S.E (sm rest s 1) = true) := by show _ = _; rw [HE.out.2.1]; exact hb
    rw [hb] at hIs2
    clear hb
    go_wp2_with fail
    go_quiet (first | (go_at_call 31; refine Calls.quiet_of_same (hIs2 _)))
    clear hIs2
    go_wp2_with fail
    refine (hCC _).mono ?_
    rintro x w5 ⟨a5, m5, c5, rfl, hr5, hR5, hu5⟩
    have HD : Hid (RDid X Y k S.n w r (.returned (.tuple #[.slice a5 m5 c5, .int .i64 r.2.2])) w5) := ⟨a5, m5, c5, rfl, hr5, hR5, (UpdP.of_below (below_drewN HB.out _)).trans hu5⟩
    clear hr5 hR5 hu5 hCC
    generalize r.2.2 = rr at *
    go_wp2
    go_ret2
    exact Or.inr ⟨HGood.out, by rw [pickX_yes HP.out]; exact HD.out⟩
   | false =>
    have HP : Hid (En.isB S.E (sm rest s 1) = false) := by show _ = _; rw [HE.out.2.1]; exact hb
    rw [hb] at hIs2
    clear hb
    go_wp2_with fail
    go_quiet (first | (go_at_call 31; refine Calls.quiet_of_same (hIs2 _)))
    clear hIs2 hCC
    go_wp2
    go_ret2
    exact Or.inr ⟨HGood.out, by rw [pickX_no HP.out]; exact HRef.out _ (below_drewN HB.out _) _ rfl⟩
set_option maxRecDepth 100000 in
set_option maxHeartbeats 4000000 in
theorem rr_a2 {w : World} {X : Nat} {Y : RxL} {k : Nat} {S : XS} (h : RefX w X Y k S) (e : Int) (g o n cap c s lo hi g1 o1 : Nat) (rest : List Int) (hI : En.isB S.E e = true) (h0 : w.cell? ⟨g, o, none⟩ = some (.int .u64 c)) (hn : n + 1 ≤ cap) (hs : s ≤ 3) (hsn : lo ≤ n → s ≤ n)
 (hsh : ∀ W, Calls Tryz.prog 32 #[.int .u64 (c : Int)] W fun x w' => x = .returned (.tuple #[.int .i64 (lo : Int), .int .i64 (hi : Int), .int .i64 (s : Int)]) ∧ w' = W)
 (hcut : ∀ V : World, (Instr.slice 27 (.slice (some ⟨g, o, none⟩) (n + 1) cap) (some (.int .i64 1)) none none).run Tryz.prog V = .ok (.slice (some ⟨g1, o1, none⟩) n (cap - 1)) V)
 (hrl : rest.length = n) (hrc : ∀ (j : Nat) (x : Int), rest[j]? = some x → w.cell? ⟨g1, o1 + j, none⟩ = some (.int .u64 x) ∧ 0 ≤ x) (k1 : ((c : Int) == 1) = false) (k14 : ((c : Int) == 14) = true) (k11 : ((c : Int) == 11) = false) (k4 : ((c : Int) == 4) = false) (k12 : decide ((12 : Int) ≤ (c : Int)) = true) (r : XS × List Int × Int)
 (hC : ∀ W, Below w.heap.size w W → lo ≤ n → n ≤ hi → (∀ j y, j < s → rest[j]? = some y → y < 2147483648) → Calls Tryz.prog 33 #[ptr X, .int .i64 e, .int .u64 c, .agg #[.int .i64 (sm rest s 0), .int .i64 (sm rest s 1), .int .i64 (sm rest s 2)], .slice (some ⟨g1, o1, none⟩) n (cap - 1)] W (RDid X Y k S.n W r)) :
  Calls Tryz.prog 10 #[ptr X, .int .i64 e, .slice (some ⟨g, o, none⟩) (n + 1) cap] w fun x w' => ((n < lo ∨ hi < n ∨ (∃ j y, j < s ∧ rest[j]? = some y ∧ 2147483648 ≤ y)) ∧ RDid X Y k S.n w (S, [], 101) x w') ∨ ((lo ≤ n ∧ n ≤ hi ∧ ∀ j y, j < s → rest[j]? = some y → y < 2147483648) ∧ RDid X Y k S.n w (pickX (En.isB S.E (sm rest s 1)) r (S, [], 101)) x w') := by
 have hIs := x_is h e
 rw [hI] at hIs
 have z2 := h.c2
 have i1 : decide ((n : Int) + 1 < 1) = false := decide_eq_false (by omega)
 have i2 : decide ((lo : Int) < 0) = false := decide_eq_false (by omega)
 have i3 : (0 : Int) < (n : Int) + 1 := by omega
 have HR : Hid _ := h
 have HC : Hid _ := hC
 have HRL : Hid (rest.length = n) := hrl
 have HRC : Hid (∀ (j : Nat) (x : Int), rest[j]? = some x → w.cell? ⟨g1, o1 + j, none⟩ = some (.int .u64 x) ∧ 0 ≤ x) := hrc
 have H0 : Hid (w.cell? ⟨g, o, none⟩ = some (.int .u64 c)) := h0
 have HN : Hid (lo ≤ n → s ≤ n) := hsn
 have hSh := hsh w
 have HRef : Hid (∀ W, Below w.heap.size w W → ∀ (x : Ending), x = .returned (.tuple #[.slice none 0 0, .int .i64 101]) → RDid X Y k S.n w (S, [], 101) x W) := fun W hb x hx => ⟨none, 0, 0, hx, RdV.nil _ _ _, (h.below hb).mono (Nat.le_succ k), UpdP.of_below hb⟩
 clear h hI hC hrl hrc hsh hsn
 go_enter Tryz.func10, Tryz.ntmps10
 go_wp2_with fail
 refine hIs.mono ?_
 rintro x w1 ⟨rfl, hw⟩
 rw [hw]
 clear hw w1 hIs
 go_wp2_with fail
 refine hSh.mono ?_
 rintro x w1 ⟨rfl, hw⟩
 rw [hw]
 clear hw w1 hSh
 by_cases d1 : n < lo
 ·have q1 : decide ((n : Int) < (lo : Int)) = true := decide_eq_true (by omega)
  go_wp2
  go_ret2
  exact Or.inl ⟨Or.inl d1, HRef.out _ (Below.refl _ _) _ rfl⟩
 have q1 : decide ((n : Int) < (lo : Int)) = false := decide_eq_false (by omega)
 by_cases d2 : hi < n
 ·have q2 : decide ((hi : Int) < (n : Int)) = true := decide_eq_true (by omega)
  go_wp2
  go_ret2
  exact Or.inl ⟨Or.inr (Or.inl d2), HRef.out _ (Below.refl _ _) _ rfl⟩
 have q2 : decide ((hi : Int) < (n : Int)) = false := decide_eq_false (by omega)
 have hsn := HN.out (by omega)
 obtain ⟨A, hA⟩ : ∃ A, A = w.alloc (.cells #[.int .i64 0, .int .i64 0, .int .i64 0] 91) := ⟨_, rfl⟩
 have HAb : Hid (Below w.heap.size w A) := by rw [hA]; exact Ca.below_alloc _ _
 have HAA : Hid (A.heap[w.heap.size]? = some (.cells (smRow rest 0) 91)) := by rw [hA]; exact heap_alloc_new _ _
 have HA : Hid _ := hA
 clear hA
 go_wp2
 rw [← HA.out]
 clear HA z2 h0
 obtain ⟨A0, hA0⟩ : ∃ A0, A0 = w.heap.size := ⟨_, rfl⟩
 rw [← hA0] at HAA ⊢
 have HA0 : Hid (A0 = w.heap.size) := hA0
 clear hA0
 go_loopw [13] (fun s' wr => ∃ (i : Nat), i ≤ s ∧ s' = .int .i64 i ∧ Hid (wr.heap[A0]? = some (.cells (smRow rest i) 91)) ∧ Hid (Below w.heap.size w wr) ∧ Hid (∀ j y, j < i → rest[j]? = some y → y < 2147483648)) (fun s' _ => s - (intOf s').toNat)
 case atStart => exact ⟨0, by omega, rfl, HAA, HAb, fun j y hj => absurd hj (Nat.not_lt_zero _)⟩
 case round =>
  clear HAA HAb
  obtain ⟨i, hi', rfl, HAk, HB, HSM⟩ := hrel
  by_cases hlt : i < s
  ·obtain ⟨x, hx⟩ : ∃ x, rest[i]? = some x := ⟨rest[i]'(by rw [HRL.out]; omega), List.getElem?_eq_getElem _⟩
   obtain ⟨c0, x0⟩ := HRC.out i x hx
   have c1 := (HB.out.cell (cell_lt c0)).trans c0
   have HX : Hid (rest[i]? = some x) := hx
   have gi : (i : Int) < (s : Int) := by omega
   have gn : (i : Int) < (n : Int) := by omega
   clear hx c0
   by_cases hbig : 2147483648 ≤ x
   ·go_wp2
    go_ret2
    exact Or.inl ⟨Or.inr (Or.inr ⟨i, x, hlt, HX.out, hbig⟩), HRef.out _ HB.out _ rfl⟩
   ·have hwx : IntKind.i64.wrap x = x := by rw [IntKind.wrap_i64]; omega
    obtain ⟨y, hy⟩ := smRow_cell HAk.out i (by omega)
    have hfz : wr.frozen? ⟨A0, i, none⟩ = false := frozen_of_heap HAk.out
    have hk3 : (i : Int) < 3 := by omega
    have hk3n : i < 3 := by omega
    go_wp2
    go_roundw
    case rel =>
     refine ⟨i + 1, by omega, by go_num, ?_, below_set HB.out (Nat.le_of_eq HA0.out.symm), ?_⟩
     ·show _ = _
      rw [setCell_eq_setRow _ _ _ _ _ _ _ HAk.out, setRow_heap _ _ _ _ _ _ HAk.out, smRow_set HX.out (by omega)]
     ·intro j z hj hz
      by_cases e : j = i
      ·subst e
       rw [HX.out] at hz
       cases hz
       omega
      ·exact HSM.out j z (by omega) hz
    case measure => simp [intOf]; omega
  ·have hks : i = s := by omega
   have gi : ¬ (i : Int) < (s : Int) := by omega
   rw [hks] at HAk HSM
   have c0 := (HB.out.cell (cell_lt H0.out)).trans H0.out
   obtain ⟨s0, s1, s2⟩ := three_cells HAk.out
   have hRr := HR.out.below HB.out
   have z2 := hRr.c2
   have HGood : Hid (lo ≤ n ∧ n ≤ hi ∧ ∀ j y, j < s → rest[j]? = some y → y < 2147483648) := ⟨by omega, by omega, HSM.out⟩
   have hCC := fun q => HC.out (wr.drewN q) (below_drewN HB.out q) HGood.out.1 HGood.out.2.1 HGood.out.2.2
   have HRr : Hid _ := hRr
   clear hks hRr HR HC
   generalize hs0 : sm rest s 0 = a0 at *
   generalize hs1 : sm rest s 1 = a1 at *
   generalize hs2 : sm rest s 2 = a2 at *
   have HE : Hid (sm rest s 0 = a0 ∧ sm rest s 1 = a1 ∧ sm rest s 2 = a2) := ⟨hs0, hs1, hs2⟩
   clear hs0 hs1 hs2
   have hIs2 := fun q => x_is (HRr.out.below (below_drewN (Below.refl _ wr) q)) a1
   cases hb : En.isB S.E a1 with
   | true =>
    have HP : Hid (En.isB S.E (sm rest s 1) = true) := by show _ = _; rw [HE.out.2.1]; exact hb
    rw [hb] at hIs2
    clear hb
    go_wp2_with fail
    go_quiet (first | (go_at_call 31; refine Calls.quiet_of_same (hIs2 _)))
    clear hIs2
    go_wp2_with fail
    refine (hCC _).mono ?_
    rintro x w5 ⟨a5, m5, c5, rfl, hr5, hR5, hu5⟩
    have HD : Hid (RDid X Y k S.n w r (.returned (.tuple #[.slice a5 m5 c5, .int .i64 r.2.2])) w5) := ⟨a5, m5, c5, rfl, hr5, hR5, (UpdP.of_below (below_drewN HB.out _)).trans hu5⟩
    clear hr5 hR5 hu5 hCC
    generalize r.2.2 = rr at *
    go_wp2
    go_ret2
    exact Or.inr ⟨HGood.out, by rw [pickX_yes HP.out]; exact HD.out⟩
   | false =>
    have HP : Hid (En.isB S.E (sm rest s 1) = false) := by show _ = _; rw [HE.out.2.1]; exact hb
    rw [hb] at hIs2
    clear hb
    go_wp2_with fail
    go_quiet (first | (go_at_call 31; refine Calls.quiet_of_same (hIs2 _)))
    clear hIs2 hCC
    go_wp2
    go_ret2
    exact Or.inr ⟨HGood.out, by rw [pickX_no HP.out]; exact HRef.out _ (below_drewN HB.out _) _ rfl⟩
end Go.Proofs.YtbhpafgoofkkmaaGreatDoor
namespace Go.Proofs.YtbhpafgoofkkmaaGreatDoor
open Go.RowKit
set_option maxRecDepth 100000 in
set_option maxHeartbeats 4000000 in
theorem rr_b {w : World} {X : Nat} {Y : RxL} {k : Nat} {S : XS} (h : RefX w X Y k S) (e : Int) (g o n cap c s lo hi g1 o1 : Nat) (rest : List Int) (hI : En.isB S.E e = true) (h0 : w.cell? ⟨g, o, none⟩ = some (.int .u64 c)) (hn : n + 1 ≤ cap) (hs : s ≤ 3) (hsn : lo ≤ n → s ≤ n)
 (hsh : ∀ W, Calls Tryz.prog 32 #[.int .u64 (c : Int)] W fun x w' => x = .returned (.tuple #[.int .i64 (lo : Int), .int .i64 (hi : Int), .int .i64 (s : Int)]) ∧ w' = W)
 (hcut : ∀ V : World, (Instr.slice 27 (.slice (some ⟨g, o, none⟩) (n + 1) cap) (some (.int .i64 1)) none none).run Tryz.prog V = .ok (.slice (some ⟨g1, o1, none⟩) n (cap - 1)) V)
 (hrl : rest.length = n) (hrc : ∀ (j : Nat) (x : Int), rest[j]? = some x → w.cell? ⟨g1, o1 + j, none⟩ = some (.int .u64 x) ∧ 0 ≤ x) (k1 : ((c : Int) == 1) = false) (k14 : ((c : Int) == 14) = false) (k11 : ((c : Int) == 11) = true) (k4 : ((c : Int) == 4) = false) (k12 : decide ((12 : Int) ≤ (c : Int)) = false) (r : XS × List Int × Int)
 (hC : ∀ W, Below w.heap.size w W → lo ≤ n → n ≤ hi → (∀ j y, j < s → rest[j]? = some y → y < 2147483648) → Calls Tryz.prog 34 #[ptr X, .int .i64 e, .int .u64 c, .agg #[.int .i64 (sm rest s 0), .int .i64 (sm rest s 1), .int .i64 (sm rest s 2)], .slice (some ⟨g1, o1, none⟩) n (cap - 1)] W (RDid X Y k S.n W r)) :
  Calls Tryz.prog 10 #[ptr X, .int .i64 e, .slice (some ⟨g, o, none⟩) (n + 1) cap] w fun x w' => ((n < lo ∨ hi < n ∨ (∃ j y, j < s ∧ rest[j]? = some y ∧ 2147483648 ≤ y)) ∧ RDid X Y k S.n w (S, [], 101) x w') ∨ ((lo ≤ n ∧ n ≤ hi ∧ ∀ j y, j < s → rest[j]? = some y → y < 2147483648) ∧ RDid X Y k S.n w (pickX (En.isB S.E (sm rest s 0)) r (S, [], 101)) x w') := by
 have hIs := x_is h e
 rw [hI] at hIs
 have z2 := h.c2
 have i1 : decide ((n : Int) + 1 < 1) = false := decide_eq_false (by omega)
 have i2 : decide ((lo : Int) < 0) = false := decide_eq_false (by omega)
 have i3 : (0 : Int) < (n : Int) + 1 := by omega
 have HR : Hid _ := h
 have HC : Hid _ := hC
 have HRL : Hid (rest.length = n) := hrl
 have HRC : Hid (∀ (j : Nat) (x : Int), rest[j]? = some x → w.cell? ⟨g1, o1 + j, none⟩ = some (.int .u64 x) ∧ 0 ≤ x) := hrc
 have H0 : Hid (w.cell? ⟨g, o, none⟩ = some (.int .u64 c)) := h0
 have HN : Hid (lo ≤ n → s ≤ n) := hsn
 have hSh := hsh w
 have HRef : Hid (∀ W, Below w.heap.size w W → ∀ (x : Ending), x = .returned (.tuple #[.slice none 0 0, .int .i64 101]) → RDid X Y k S.n w (S, [], 101) x W) := fun W hb x hx => ⟨none, 0, 0, hx, RdV.nil _ _ _, (h.below hb).mono (Nat.le_succ k), UpdP.of_below hb⟩
 clear h hI hC hrl hrc hsh hsn
 go_enter Tryz.func10, Tryz.ntmps10
 go_wp2_with fail
 refine hIs.mono ?_
 rintro x w1 ⟨rfl, hw⟩
 rw [hw]
 clear hw w1 hIs
 go_wp2_with fail
 refine hSh.mono ?_
 rintro x w1 ⟨rfl, hw⟩
 rw [hw]
 clear hw w1 hSh
 by_cases d1 : n < lo
 ·have q1 : decide ((n : Int) < (lo : Int)) = true := decide_eq_true (by omega)
  go_wp2
  go_ret2
  exact Or.inl ⟨Or.inl d1, HRef.out _ (Below.refl _ _) _ rfl⟩
 have q1 : decide ((n : Int) < (lo : Int)) = false := decide_eq_false (by omega)
 by_cases d2 : hi < n
 ·have q2 : decide ((hi : Int) < (n : Int)) = true := decide_eq_true (by omega)
  go_wp2
  go_ret2
  exact Or.inl ⟨Or.inr (Or.inl d2), HRef.out _ (Below.refl _ _) _ rfl⟩
 have q2 : decide ((hi : Int) < (n : Int)) = false := decide_eq_false (by omega)
 have hsn := HN.out (by omega)
 obtain ⟨A, hA⟩ : ∃ A, A = w.alloc (.cells #[.int .i64 0, .int .i64 0, .int .i64 0] 91) := ⟨_, rfl⟩
 have HAb : Hid (Below w.heap.size w A) := by rw [hA]; exact Ca.below_alloc _ _
 have HAA : Hid (A.heap[w.heap.size]? = some (.cells (smRow rest 0) 91)) := by rw [hA]; exact heap_alloc_new _ _
 have HA : Hid _ := hA
 clear hA
 go_wp2
 rw [← HA.out]
 clear HA z2 h0
 obtain ⟨A0, hA0⟩ : ∃ A0, A0 = w.heap.size := ⟨_, rfl⟩
 rw [← hA0] at HAA ⊢
 have HA0 : Hid (A0 = w.heap.size) := hA0
 clear hA0
 go_loopw [13] (fun s' wr => ∃ (i : Nat), i ≤ s ∧ s' = .int .i64 i ∧ Hid (wr.heap[A0]? = some (.cells (smRow rest i) 91)) ∧ Hid (Below w.heap.size w wr) ∧ Hid (∀ j y, j < i → rest[j]? = some y → y < 2147483648)) (fun s' _ => s - (intOf s').toNat)
 case atStart => exact ⟨0, by omega, rfl, HAA, HAb, fun j y hj => absurd hj (Nat.not_lt_zero _)⟩
 case round =>
  clear HAA HAb
  obtain ⟨i, hi', rfl, HAk, HB, HSM⟩ := hrel
  by_cases hlt : i < s
  ·obtain ⟨x, hx⟩ : ∃ x, rest[i]? = some x := ⟨rest[i]'(by rw [HRL.out]; omega), List.getElem?_eq_getElem _⟩
   obtain ⟨c0, x0⟩ := HRC.out i x hx
   have c1 := (HB.out.cell (cell_lt c0)).trans c0
   have HX : Hid (rest[i]? = some x) := hx
   have gi : (i : Int) < (s : Int) := by omega
   have gn : (i : Int) < (n : Int) := by omega
   clear hx c0
   by_cases hbig : 2147483648 ≤ x
   ·go_wp2
    go_ret2
    exact Or.inl ⟨Or.inr (Or.inr ⟨i, x, hlt, HX.out, hbig⟩), HRef.out _ HB.out _ rfl⟩
   ·have hwx : IntKind.i64.wrap x = x := by rw [IntKind.wrap_i64]; omega
    obtain ⟨y, hy⟩ := smRow_cell HAk.out i (by omega)
    have hfz : wr.frozen? ⟨A0, i, none⟩ = false := frozen_of_heap HAk.out
    have hk3 : (i : Int) < 3 := by omega
    have hk3n : i < 3 := by omega
    go_wp2
    go_roundw
    case rel =>
     refine ⟨i + 1, by omega, by go_num, ?_, below_set HB.out (Nat.le_of_eq HA0.out.symm), ?_⟩
     ·show _ = _
      rw [setCell_eq_setRow _ _ _ _ _ _ _ HAk.out, setRow_heap _ _ _ _ _ _ HAk.out, smRow_set HX.out (by omega)]
     ·intro j z hj hz
      by_cases e : j = i
      ·subst e
       rw [HX.out] at hz
       cases hz
       omega
      ·exact HSM.out j z (by omega) hz
    case measure => simp [intOf]; omega
  ·have hks : i = s := by omega
   have gi : ¬ (i : Int) < (s : Int) := by omega
   rw [hks] at HAk HSM
   have c0 := (HB.out.cell (cell_lt H0.out)).trans H0.out
   obtain ⟨s0, s1, s2⟩ := three_cells HAk.out
   have hRr := HR.out.below HB.out
   have z2 := hRr.c2
   have HGood : Hid (lo ≤ n ∧ n ≤ hi ∧ ∀ j y, j < s → rest[j]? = some y → y < 2147483648) := ⟨by omega, by omega, HSM.out⟩
   have hCC := fun q => HC.out (wr.drewN q) (below_drewN HB.out q) HGood.out.1 HGood.out.2.1 HGood.out.2.2
   have HRr : Hid _ := hRr
   clear hks hRr HR HC
   generalize hs0 : sm rest s 0 = a0 at *
   generalize hs1 : sm rest s 1 = a1 at *
   generalize hs2 : sm rest s 2 = a2 at *
   have HE : Hid (sm rest s 0 = a0 ∧ sm rest s 1 = a1 ∧ sm rest s 2 = a2) := ⟨hs0, hs1, hs2⟩
   clear hs0 hs1 hs2
   have hIs2 := fun q => x_is (HRr.out.below (below_drewN (Below.refl _ wr) q)) a0
   cases hb : En.isB S.E a0 with
   | true =>
    have HP : Hid (En.isB S.E (sm rest s 0) = true) := by show _ = _; rw [HE.out.1]; exact hb
    rw [hb] at hIs2
    clear hb
    go_wp2_with fail
    go_quiet (first | (go_at_call 31; refine Calls.quiet_of_same (hIs2 _)))
    clear hIs2
    go_wp2_with fail
    refine (hCC _).mono ?_
    rintro x w5 ⟨a5, m5, c5, rfl, hr5, hR5, hu5⟩
    have HD : Hid (RDid X Y k S.n w r (.returned (.tuple #[.slice a5 m5 c5, .int .i64 r.2.2])) w5) := ⟨a5, m5, c5, rfl, hr5, hR5, (UpdP.of_below (below_drewN HB.out _)).trans hu5⟩
    clear hr5 hR5 hu5 hCC
    generalize r.2.2 = rr at *
    go_wp2
    go_ret2
    exact Or.inr ⟨HGood.out, by rw [pickX_yes HP.out]; exact HD.out⟩
   | false =>
    have HP : Hid (En.isB S.E (sm rest s 0) = false) := by show _ = _; rw [HE.out.1]; exact hb
    rw [hb] at hIs2
    clear hb
    go_wp2_with fail
    go_quiet (first | (go_at_call 31; refine Calls.quiet_of_same (hIs2 _)))
    clear hIs2 hCC
    go_wp2
    go_ret2
    exact Or.inr ⟨HGood.out, by rw [pickX_no HP.out]; exact HRef.out _ (below_drewN HB.out _) _ rfl⟩
set_option maxRecDepth 100000 in
set_option maxHeartbeats 4000000 in
theorem rr_c {w : World} {X : Nat} {Y : RxL} {k : Nat} {S : XS} (h : RefX w X Y k S) (e : Int) (g o n cap c s lo hi g1 o1 : Nat) (rest : List Int) (hI : En.isB S.E e = true) (h0 : w.cell? ⟨g, o, none⟩ = some (.int .u64 c)) (hn : n + 1 ≤ cap) (hs : s ≤ 3) (hsn : lo ≤ n → s ≤ n)
 (hsh : ∀ W, Calls Tryz.prog 32 #[.int .u64 (c : Int)] W fun x w' => x = .returned (.tuple #[.int .i64 (lo : Int), .int .i64 (hi : Int), .int .i64 (s : Int)]) ∧ w' = W)
 (hcut : ∀ V : World, (Instr.slice 27 (.slice (some ⟨g, o, none⟩) (n + 1) cap) (some (.int .i64 1)) none none).run Tryz.prog V = .ok (.slice (some ⟨g1, o1, none⟩) n (cap - 1)) V)
 (hrl : rest.length = n) (hrc : ∀ (j : Nat) (x : Int), rest[j]? = some x → w.cell? ⟨g1, o1 + j, none⟩ = some (.int .u64 x) ∧ 0 ≤ x) (k1 : ((c : Int) == 1) = false) (k14 : ((c : Int) == 14) = false) (k11 : ((c : Int) == 11) = false) (k4 : ((c : Int) == 4) = true) (k12 : decide ((12 : Int) ≤ (c : Int)) = false) (r : XS × List Int × Int)
 (hC : ∀ W, Below w.heap.size w W → lo ≤ n → n ≤ hi → (∀ j y, j < s → rest[j]? = some y → y < 2147483648) → Calls Tryz.prog 34 #[ptr X, .int .i64 e, .int .u64 c, .agg #[.int .i64 (sm rest s 0), .int .i64 (sm rest s 1), .int .i64 (sm rest s 2)], .slice (some ⟨g1, o1, none⟩) n (cap - 1)] W (RDid X Y k S.n W r)) :
  Calls Tryz.prog 10 #[ptr X, .int .i64 e, .slice (some ⟨g, o, none⟩) (n + 1) cap] w fun x w' => ((n < lo ∨ hi < n ∨ (∃ j y, j < s ∧ rest[j]? = some y ∧ 2147483648 ≤ y)) ∧ RDid X Y k S.n w (S, [], 101) x w') ∨ ((lo ≤ n ∧ n ≤ hi ∧ ∀ j y, j < s → rest[j]? = some y → y < 2147483648) ∧ RDid X Y k S.n w (pickX (decide (sm rest s 2 ≤ 1)) r (S, [], 101)) x w') := by
 have hIs := x_is h e
 rw [hI] at hIs
 have z2 := h.c2
 have i1 : decide ((n : Int) + 1 < 1) = false := decide_eq_false (by omega)
 have i2 : decide ((lo : Int) < 0) = false := decide_eq_false (by omega)
 have i3 : (0 : Int) < (n : Int) + 1 := by omega
 have HR : Hid _ := h
 have HC : Hid _ := hC
 have HRL : Hid (rest.length = n) := hrl
 have HRC : Hid (∀ (j : Nat) (x : Int), rest[j]? = some x → w.cell? ⟨g1, o1 + j, none⟩ = some (.int .u64 x) ∧ 0 ≤ x) := hrc
 have H0 : Hid (w.cell? ⟨g, o, none⟩ = some (.int .u64 c)) := h0
 have HN : Hid (lo ≤ n → s ≤ n) := hsn
 have hSh := hsh w
 have HRef : Hid (∀ W, Below w.heap.size w W → ∀ (x : Ending), x = .returned (.tuple #[.slice none 0 0, .int .i64 101]) → RDid X Y k S.n w (S, [], 101) x W) := fun W hb x hx => ⟨none, 0, 0, hx, RdV.nil _ _ _, (h.below hb).mono (Nat.le_succ k), UpdP.of_below hb⟩
 clear h hI hC hrl hrc hsh hsn
 go_enter Tryz.func10, Tryz.ntmps10
 go_wp2_with fail
 refine hIs.mono ?_
 rintro x w1 ⟨rfl, hw⟩
 rw [hw]
 clear hw w1 hIs
 go_wp2_with fail
 refine hSh.mono ?_
 rintro x w1 ⟨rfl, hw⟩
 rw [hw]
 clear hw w1 hSh
 by_cases d1 : n < lo
 ·have q1 : decide ((n : Int) < (lo : Int)) = true := decide_eq_true (by omega)
  go_wp2
  go_ret2
  exact Or.inl ⟨Or.inl d1, HRef.out _ (Below.refl _ _) _ rfl⟩
 have q1 : decide ((n : Int) < (lo : Int)) = false := decide_eq_false (by omega)
 by_cases d2 : hi < n
 ·have q2 : decide ((hi : Int) < (n : Int)) = true := decide_eq_true (by omega)
  go_wp2
  go_ret2
  exact Or.inl ⟨Or.inr (Or.inl d2), HRef.out _ (Below.refl _ _) _ rfl⟩
 have q2 : decide ((hi : Int) < (n : Int)) = false := decide_eq_false (by omega)
 have hsn := HN.out (by omega)
 obtain ⟨A, hA⟩ : ∃ A, A = w.alloc (.cells #[.int .i64 0, .int .i64 0, .int .i64 0] 91) := ⟨_, rfl⟩
 have HAb : Hid (Below w.heap.size w A) := by rw [hA]; exact Ca.below_alloc _ _
 have HAA : Hid (A.heap[w.heap.size]? = some (.cells (smRow rest 0) 91)) := by rw [hA]; exact heap_alloc_new _ _
 have HA : Hid _ := hA
 clear hA
 go_wp2
 rw [← HA.out]
 clear HA z2 h0
 obtain ⟨A0, hA0⟩ : ∃ A0, A0 = w.heap.size := ⟨_, rfl⟩
 rw [← hA0] at HAA ⊢
 have HA0 : Hid (A0 = w.heap.size) := hA0
 clear hA0
 go_loopw [13] (fun s' wr => ∃ (i : Nat), i ≤ s ∧ s' = .int .i64 i ∧ Hid (wr.heap[A0]? = some (.cells (smRow rest i) 91)) ∧ Hid (Below w.heap.size w wr) ∧ Hid (∀ j y, j < i → rest[j]? = some y → y < 2147483648)) (fun s' _ => s - (intOf s').toNat)
 case atStart => exact ⟨0, by omega, rfl, HAA, HAb, fun j y hj => absurd hj (Nat.not_lt_zero _)⟩
 case round =>
  clear HAA HAb
  obtain ⟨i, hi', rfl, HAk, HB, HSM⟩ := hrel
  by_cases hlt : i < s
  ·obtain ⟨x, hx⟩ : ∃ x, rest[i]? = some x := ⟨rest[i]'(by rw [HRL.out]; omega), List.getElem?_eq_getElem _⟩
   obtain ⟨c0, x0⟩ := HRC.out i x hx
   have c1 := (HB.out.cell (cell_lt c0)).trans c0
   have HX : Hid (rest[i]? = some x) := hx
   have gi : (i : Int) < (s : Int) := by omega
   have gn : (i : Int) < (n : Int) := by omega
   clear hx c0
   by_cases hbig : 2147483648 ≤ x
   ·go_wp2
    go_ret2
    exact Or.inl ⟨Or.inr (Or.inr ⟨i, x, hlt, HX.out, hbig⟩), HRef.out _ HB.out _ rfl⟩
   ·have hwx : IntKind.i64.wrap x = x := by rw [IntKind.wrap_i64]; omega
    obtain ⟨y, hy⟩ := smRow_cell HAk.out i (by omega)
    have hfz : wr.frozen? ⟨A0, i, none⟩ = false := frozen_of_heap HAk.out
    have hk3 : (i : Int) < 3 := by omega
    have hk3n : i < 3 := by omega
    go_wp2
    go_roundw
    case rel =>
     refine ⟨i + 1, by omega, by go_num, ?_, below_set HB.out (Nat.le_of_eq HA0.out.symm), ?_⟩
     ·show _ = _
      rw [setCell_eq_setRow _ _ _ _ _ _ _ HAk.out, setRow_heap _ _ _ _ _ _ HAk.out, smRow_set HX.out (by omega)]
     ·intro j z hj hz
      by_cases e : j = i
      ·subst e
       rw [HX.out] at hz
       cases hz
       omega
      ·exact HSM.out j z (by omega) hz
    case measure => simp [intOf]; omega
  ·have hks : i = s := by omega
   have gi : ¬ (i : Int) < (s : Int) := by omega
   rw [hks] at HAk HSM
   have c0 := (HB.out.cell (cell_lt H0.out)).trans H0.out
   obtain ⟨s0, s1, s2⟩ := three_cells HAk.out
   have hRr := HR.out.below HB.out
   have z2 := hRr.c2
   have HGood : Hid (lo ≤ n ∧ n ≤ hi ∧ ∀ j y, j < s → rest[j]? = some y → y < 2147483648) := ⟨by omega, by omega, HSM.out⟩
   have hCC := fun q => HC.out (wr.drewN q) (below_drewN HB.out q) HGood.out.1 HGood.out.2.1 HGood.out.2.2
   have HRr : Hid _ := hRr
   clear hks hRr HR HC
   generalize hs0 : sm rest s 0 = a0 at *
   generalize hs1 : sm rest s 1 = a1 at *
   generalize hs2 : sm rest s 2 = a2 at *
   have HE : Hid (sm rest s 0 = a0 ∧ sm rest s 1 = a1 ∧ sm rest s 2 = a2) := ⟨hs0, hs1, hs2⟩
   clear hs0 hs1 hs2
   by_cases hb : a2 ≤ 1
   ·have HP : Hid (decide (sm rest s 2 ≤ 1) = true) := by show _ = _; rw [HE.out.2.2]; exact decide_eq_true hb
    have gb : decide ((1 : Int) < a2) = false := decide_eq_false (by omega)
    clear hb
    go_wp2_with fail
    go_quiet (fail)
    go_wp2_with fail
    refine (hCC _).mono ?_
    rintro x w5 ⟨a5, m5, c5, rfl, hr5, hR5, hu5⟩
    have HD : Hid (RDid X Y k S.n w r (.returned (.tuple #[.slice a5 m5 c5, .int .i64 r.2.2])) w5) := ⟨a5, m5, c5, rfl, hr5, hR5, (UpdP.of_below (below_drewN HB.out _)).trans hu5⟩
    clear hr5 hR5 hu5 hCC
    generalize r.2.2 = rr at *
    go_wp2
    go_ret2
    exact Or.inr ⟨HGood.out, by rw [pickX_yes HP.out]; exact HD.out⟩
   ·have HP : Hid (decide (sm rest s 2 ≤ 1) = false) := by show _ = _; rw [HE.out.2.2]; exact decide_eq_false hb
    have gb : decide ((1 : Int) < a2) = true := decide_eq_true (by omega)
    clear hb hCC
    go_wp2_with fail
    go_quiet (fail)
    go_wp2
    go_ret2
    exact Or.inr ⟨HGood.out, by rw [pickX_no HP.out]; exact HRef.out _ (below_drewN HB.out _) _ rfl⟩
end Go.Proofs.YtbhpafgoofkkmaaGreatDoor
namespace Go.Proofs.YtbhpafgoofkkmaaGreatDoor
open Go.RowKit
section
variable {w : World} {X : Nat} {Y : RxL} {k : Nat} {S : XS}
theorem RefX.refuse (h : RefX w X Y k S) {W : World} (hb : Below w.heap.size w W) {x : Ending} (hx : x = .returned (.tuple #[.slice none 0 0, .int .i64 101])) : RDid X Y k S.n w (S, [], 101) x W := ⟨none, 0, 0, hx, RdV.nil _ _ _, (h.below hb).mono (Nat.le_succ k), UpdP.of_below hb⟩
set_option maxRecDepth 100000 in
theorem rr_dead (h : RefX w X Y k S) (e : Int) (v : Value) (hI : En.isB S.E e = false) :
  Calls Tryz.prog 10 #[ptr X, .int .i64 e, v] w (RDid X Y k S.n w (S, [], 101)) := by
 have hIs := x_is h e
 rw [hI] at hIs
 have z2 := h.c2
 have HR : Hid _ := h
 clear h hI
 go_enter Tryz.func10, Tryz.ntmps10
 go_wp2_with fail
 refine hIs.mono ?_
 rintro x w1 ⟨rfl, hw⟩
 rw [hw]
 clear hw w1 hIs
 go_wp2
 go_ret2
 exact HR.out.refuse (Below.refl _ _) rfl
set_option maxRecDepth 100000 in
theorem rr_empty (h : RefX w X Y k S) (e : Int) (a : Option Addr) (cap : Nat) (hI : En.isB S.E e = true) :
  Calls Tryz.prog 10 #[ptr X, .int .i64 e, .slice a 0 cap] w (RDid X Y k S.n w (S, [], 101)) := by
 have hIs := x_is h e
 rw [hI] at hIs
 have z2 := h.c2
 have HR : Hid _ := h
 clear h hI
 go_enter Tryz.func10, Tryz.ntmps10
 go_wp2_with fail
 refine hIs.mono ?_
 rintro x w1 ⟨rfl, hw⟩
 rw [hw]
 clear hw w1 hIs
 go_wp2
 go_ret2
 exact HR.out.refuse (Below.refl _ _) rfl
set_option maxRecDepth 100000 in
theorem rr_big (h : RefX w X Y k S) (e : Int) (g o n cap : Nat) (y : Int) (hI : En.isB S.E e = true) (h0 : w.cell? ⟨g, o, none⟩ = some (.int .u64 y)) (hy : 18 ≤ y) (a2 : Option Addr) (c2 : Nat)
 (hcut : ∀ V : World, (Instr.slice 27 (.slice (some ⟨g, o, none⟩) (n + 1) cap) (some (.int .i64 1)) none none).run Tryz.prog V = .ok (.slice a2 n c2) V) :
  Calls Tryz.prog 10 #[ptr X, .int .i64 e, .slice (some ⟨g, o, none⟩) (n + 1) cap] w (RDid X Y k S.n w (S, [], 101)) := by
 have hIs := x_is h e
 rw [hI] at hIs
 have z2 := h.c2
 have i1 : decide ((n : Int) + 1 < 1) = false := decide_eq_false (by omega)
 have i3 : (0 : Int) < (n : Int) + 1 := by omega
 have HR : Hid _ := h
 have hSh := shape_big y hy w
 clear h hI hy
 go_enter Tryz.func10, Tryz.ntmps10
 go_wp2_with fail
 refine hIs.mono ?_
 rintro x w1 ⟨rfl, hw⟩
 rw [hw]
 clear hw w1 hIs
 go_wp2_with fail
 refine hSh.mono ?_
 rintro x w1 ⟨rfl, hw⟩
 rw [hw]
 clear hw w1 hSh
 go_wp2
 go_ret2
 exact HR.out.refuse (Below.refl _ _) rfl
end
theorem req_is {c : Nat} (hc : c < 18) (rest : List Int) : reqOf ((c : Int) :: rest) = if rest.length < fS c + fL c ∨ fS c + fM c < rest.length then none else if (rest.take (fS c)).all (fun y => decide (y < 2147483648)) = true then some ⟨c, sm rest (fS c) 0, sm rest (fS c) 1, sm rest (fS c) 2, rest.drop (fS c)⟩ else none := by
 show (if (c : Int) < 18 then _ else _) = _
 rw [if_pos (by omega)]
 simp only [Int.toNat_natCast]
theorem req_bad {c : Nat} {rest : List Int} (hc : c < 18) (h : rest.length < fS c + fL c ∨ fS c + fM c < rest.length ∨ ∃ j y, j < fS c ∧ rest[j]? = some y ∧ 2147483648 ≤ y) : reqOf ((c : Int) :: rest) = none := by
 rw [req_is hc]
 rcases h with h | h | ⟨j, z, hj, hz, hbig⟩
 ·rw [if_pos (Or.inl h)]
 ·rw [if_pos (Or.inr h)]
 ·split
  ·rfl
  ·rw [if_neg]
   intro hall
   rw [List.all_eq_true] at hall
   have := hall z (List.mem_of_getElem? (by rw [List.getElem?_take_of_lt hj]; exact hz))
   simp at this
   omega
theorem req_good {c : Nat} {rest : List Int} (hc : c < 18) (h1 : fS c + fL c ≤ rest.length) (h2 : rest.length ≤ fS c + fM c) (h3 : ∀ j y, j < fS c → rest[j]? = some y → y < 2147483648) : reqOf ((c : Int) :: rest) = some ⟨c, sm rest (fS c) 0, sm rest (fS c) 1, sm rest (fS c) 2, rest.drop (fS c)⟩ := by
 rw [req_is hc, if_neg (by omega), if_pos]
 rw [List.all_eq_true]
 intro z hz
 obtain ⟨j, hj⟩ := List.mem_iff_getElem?.1 hz
 have hjs : j < fS c := by
  have := (List.getElem?_eq_some_iff.1 hj).1
  simp at this
  omega
 rw [List.getElem?_take_of_lt hjs] at hj
 have := h3 j z hjs hj
 simpa using this
theorem sm_in {rest : List Int} {s i : Nat} (hu : U64s rest) (h3 : ∀ j y, j < s → rest[j]? = some y → y < 2147483648) : Ca.I64 (sm rest s i) := by
 unfold sm Ca.I64
 split
 ·rename_i hi
  cases hx : rest[i]? with
  | none => simp [List.getD, hx]
  | some x =>
   have h1 := h3 i x hi hx
   have h2 := hu x (List.mem_of_getElem? hx)
   simp only [List.getD, hx, Option.getD_some]
   omega
 ·omega
theorem drop_getD (rest : List Int) (s i : Nat) : (rest.drop s).getD i 0 = rest.getD (s + i) 0 := by
 simp [List.getD, List.getElem?_drop]
set_option maxRecDepth 100000 in
set_option maxHeartbeats 4000000 in
theorem rraw_at {w : World} {X : Nat} {Y : RxL} {k : Nat} {S : XS} (h : RefX w X Y k S) (ok : OkR S) (hk : k ≤ 800) (e : Int) (hm : ∀ m ∈ Ip.qat S.Q e, 0 ≤ m.fr ∧ m.fr < 12 ∧ m.ws.length ≤ 8) (v : Value) (ws : List Int) (hv : ∀ w', UpdP (RP X Y S.n) w w' → RdV w' v ws) (hu : U64s ws) (a' : Option Addr) (c' : Nat) :
  Calls Tryz.prog 10 #[ptr X, .int .i64 e, v] w (RDid X Y k S.n w (rawS S e ws a' c')) := by
 cases hl : En.isB S.E e with
 | false =>
  have e1 : rawS S e ws a' c' = (S, [], 101) := by unfold rawS; rw [hl]; rfl
  rw [e1]
  exact rr_dead h e v hl
 | true =>
  have hv0 := hv w (UpdP.refl _ _)
  cases ws with
  | nil =>
   have e1 : rawS S e [] a' c' = (S, [], 101) := by unfold rawS; rw [hl]; rfl
   rw [e1]
   obtain ⟨a, cap, rfl, _⟩ := hv0
   exact rr_empty h e a cap hl
  | cons y rest =>
   obtain ⟨a, cap0, hve, hcap, _⟩ := id hv0
   obtain ⟨g, o, cap, rfl, hx⟩ := hv0.has rest.length rfl
   have ecap : rest.length + 1 ≤ cap := by
    simp only [Value.slice.injEq] at hve
    have h3 := hve.2.2
    simp only [List.length_cons] at hcap
    omega
   have h0 : w.cell? ⟨g, o, none⟩ = some (.int .u64 y) := hx 0 y rfl
   have hy := hu y (List.mem_cons_self ..)
   have hur : U64s rest := fun z hz => hu z (List.mem_cons_of_mem _ hz)
   have hcut : ∀ V : World, (Instr.slice 27 (.slice (some ⟨g, o, none⟩) (rest.length + 1) cap) (some (.int .i64 1)) none none).run Tryz.prog V = .ok (.slice (some ⟨g, if cap = 1 then o else o + 1, none⟩) rest.length (cap - 1)) V := by
    intro V
    have := cut_from g o (rest.length + 1) cap 1 (by omega) V
    rw [show ((1 : Nat) : Int) = 1 from rfl] at this
    rw [this]
    unfold sfx
    split <;> rfl
   by_cases hb : y < 18
   ·obtain ⟨c, rfl⟩ := nat_of y hy.1
    have hc : c < 18 := by omega
    have cw0 : ∀ w', UpdP (RP X Y S.n) w w' → ∀ (j : Nat) (x : Int), rest[j]? = some x → w'.cell? ⟨g, (if cap = 1 then o else o + 1) + j, none⟩ = some (.int .u64 x) := by
     intro w' hw j x hj
     have hlt : j < rest.length := (List.getElem?_eq_some_iff.1 hj).1
     obtain ⟨a3, c3, e3, _, h3⟩ := hv w' hw
     obtain ⟨g4, o4, e4, h4⟩ := h3 (j + 1) x (by simpa using hj)
     simp only [Value.slice.injEq] at e3
     rw [← e3.1] at e4
     simp only [Option.some.injEq, Addr.mk.injEq] at e4
     obtain ⟨rfl, rfl, _⟩ := e4
     rw [if_neg (by omega)]
     rw [show o + (j + 1) = o + 1 + j by omega] at h4
     exact h4
    have hrc : ∀ (j : Nat) (x : Int), rest[j]? = some x → w.cell? ⟨g, (if cap = 1 then o else o + 1) + j, none⟩ = some (.int .u64 x) ∧ 0 ≤ x := fun j x hj => ⟨cw0 w (UpdP.refl _ _) j x hj, (hur x (List.mem_of_getElem? hj)).1⟩
    generalize (if cap = 1 then o else o + 1) = o1 at *
    have cw : ∀ (j : Nat), j < rest.length → ∀ W, Below w.heap.size w W → ∀ w', UpdP (RP X Y S.n) W w' → w'.cell? ⟨g, o1 + j, none⟩ = some (.int .u64 (rest.getD j 0)) := by
     intro j hj W hb' w' hw
     exact cw0 w' ((UpdP.of_below hb').trans hw) j _ (by simp [List.getD, List.getElem?_eq_getElem hj])
    have xp : ∀ j, 0 ≤ rest.getD j 0 := by
     intro j
     cases hj : rest[j]? with
     | none => simp [List.getD, hj]
     | some x =>
      simp only [List.getD, hj, Option.getD_some]
      exact (hur x (List.mem_of_getElem? hj)).1
    -- the rest behind s words
    have hdrop : ∀ s, s ≤ rest.length → s < cap - 1 + 1 → ∀ W, Below w.heap.size w W → ∀ w', UpdP (RP X Y S.n) W w' → Ip.Rd w' (some (sfx g o1 (cap - 1) s)) (rest.drop s) := by
     intro s hs1 hs2 W hb' w' hw j x hj
     have hj2 : rest[s + j]? = some x := by simpa [List.getElem?_drop] using hj
     have hlt : s + j < rest.length := (List.getElem?_eq_some_iff.1 hj2).1
     refine ⟨g, o1 + s, ?_, ?_⟩
     ·unfold sfx
      rw [if_neg (by omega)]
     ·have := cw0 w' ((UpdP.of_below hb').trans hw) (s + j) x hj2
      rw [show o1 + s + j = o1 + (s + j) by omega]
      exact this
    have fin : ∀ r' : XS × List Int × Int, r' = rawO S e ⟨c, sm rest (fS c) 0, sm rest (fS c) 1, sm rest (fS c) 2, rest.drop (fS c)⟩ a' c' →
      (Calls Tryz.prog 10 #[ptr X, .int .i64 e, .slice (some ⟨g, o, none⟩) (rest.length + 1) cap] w fun x w' => ((rest.length < fS c + fL c ∨ fS c + fM c < rest.length ∨ (∃ j y, j < fS c ∧ rest[j]? = some y ∧ 2147483648 ≤ y)) ∧ RDid X Y k S.n w (S, [], 101) x w') ∨ ((fS c + fL c ≤ rest.length ∧ rest.length ≤ fS c + fM c ∧ ∀ j y, j < fS c → rest[j]? = some y → y < 2147483648) ∧ RDid X Y k S.n w r' x w')) →
      Calls Tryz.prog 10 #[ptr X, .int .i64 e, .slice (some ⟨g, o, none⟩) (rest.length + 1) cap] w (RDid X Y k S.n w (rawS S e ((c : Int) :: rest) a' c')) := by
     intro r' hr hcalls
     refine hcalls.mono ?_
     rintro x w' (⟨hbad, hd⟩ | ⟨⟨h1, h2, h3⟩, hd⟩)
     ·have e1 : rawS S e ((c : Int) :: rest) a' c' = (S, [], 101) := by unfold rawS; rw [hl, req_bad hc hbad]; rfl
      rw [e1]
      exact hd
     ·have e1 : rawS S e ((c : Int) :: rest) a' c' = r' := by unfold rawS; rw [hl, req_good hc h1 h2 h3, hr]; rfl
      rw [e1]
      exact hd
    have hsh := fun W => shape_at c hc W
    obtain ⟨l1, l2, l3⟩ := fS_le c hc
    have cases18 : c = 0 ∨ c = 1 ∨ c = 2 ∨ c = 3 ∨ c = 4 ∨ c = 5 ∨ c = 6 ∨ c = 7 ∨ c = 8 ∨ c = 9 ∨ c = 10 ∨ c = 11 ∨ c = 12 ∨ c = 13 ∨ c = 14 ∨ c = 15 ∨ c = 16 ∨ c = 17 := by omega
    have args := @hsh
    rcases cases18 with rfl | rfl | rfl | rfl | rfl | rfl | rfl | rfl | rfl | rfl | rfl | rfl | rfl | rfl | rfl | rfl | rfl | rfl
    ·refine fin _ rfl (rr_d1 h e g o rest.length cap 0 (fS 0) (fS 0 + fL 0) (fS 0 + fM 0) g o1 rest hl h0 ecap l1 (fun q => by omega) hsh hcut rfl hrc rfl rfl rfl rfl rfl _ (fun W hb' h1 h2 h3 => ?_))
     exact f_0 (h.below hb') ok hk e (sm rest (fS 0) 0) (sm rest (fS 0) 1) (sm rest (fS 0) 2) (some ⟨g, o1, none⟩) rest.length (cap - 1)
    ·refine fin _ rfl (rr_a1 h e g o rest.length cap 1 (fS 1) (fS 1 + fL 1) (fS 1 + fM 1) g o1 rest hl h0 ecap l1 (fun q => by omega) hsh hcut rfl hrc rfl rfl rfl rfl _ (fun W hb' h1 h2 h3 => ?_))
     exact f_1 (h.below hb') ok hk e (sm rest (fS 1) 0) (sm rest (fS 1) 1) (sm rest (fS 1) 2) (some ⟨g, o1, none⟩) rest.length (cap - 1)
    ·refine fin _ rfl (rr_d1 h e g o rest.length cap 2 (fS 2) (fS 2 + fL 2) (fS 2 + fM 2) g o1 rest hl h0 ecap l1 (fun q => by omega) hsh hcut rfl hrc rfl rfl rfl rfl rfl _ (fun W hb' h1 h2 h3 => ?_))
     exact f_2 (h.below hb') ok hk e (sm rest (fS 2) 0) (sm rest (fS 2) 1) (sm rest (fS 2) 2) (some ⟨g, o1, none⟩) rest.length (cap - 1)
    ·refine fin _ rfl (rr_d1 h e g o rest.length cap 3 (fS 3) (fS 3 + fL 3) (fS 3 + fM 3) g o1 rest hl h0 ecap l1 (fun q => by omega) hsh hcut rfl hrc rfl rfl rfl rfl rfl _ (fun W hb' h1 h2 h3 => ?_))
     exact f_3 (h.below hb') ok hk e (sm rest (fS 3) 0) (sm rest (fS 3) 1) (sm rest (fS 3) 2) (some ⟨g, o1, none⟩) rest.length (cap - 1)
    ·refine fin (pickX (decide (sm rest (fS 4) 2 ≤ 1)) ({ S with vs := S.vs, T := S.T, F := Ex.kmapF S.T S.F e (sm rest (fS 4) 0) (sm rest (fS 4) 1) (sm rest (fS 4) 2 == 1) }, [], Ex.kmapR S.T e (sm rest (fS 4) 0) (sm rest (fS 4) 1) (sm rest (fS 4) 2 == 1)) (S, [], 101)) (by unfold pickX rawO; simp only [decide_eq_true_eq]) (rr_c h e g o rest.length cap 4 (fS 4) (fS 4 + fL 4) (fS 4 + fM 4) g o1 rest hl h0 ecap l1 (fun q => by omega) hsh hcut rfl hrc rfl rfl rfl rfl rfl ({ S with vs := S.vs, T := S.T, F := Ex.kmapF S.T S.F e (sm rest (fS 4) 0) (sm rest (fS 4) 1) (sm rest (fS 4) 2 == 1) }, [], Ex.kmapR S.T e (sm rest (fS 4) 0) (sm rest (fS 4) 1) (sm rest (fS 4) 2 == 1)) (fun W hb' h1 h2 h3 => ?_))
     exact f_4 (h.below hb') ok hk e (sm rest (fS 4) 0) (sm rest (fS 4) 1) (sm rest (fS 4) 2) (some ⟨g, o1, none⟩) rest.length (cap - 1)
    ·refine fin _ rfl (rr_d1 h e g o rest.length cap 5 (fS 5) (fS 5 + fL 5) (fS 5 + fM 5) g o1 rest hl h0 ecap l1 (fun q => by omega) hsh hcut rfl hrc rfl rfl rfl rfl rfl _ (fun W hb' h1 h2 h3 => ?_))
     exact f_5 (h.below hb') ok hk e (sm rest (fS 5) 0) (sm rest (fS 5) 1) (sm rest (fS 5) 2) (some ⟨g, o1, none⟩) rest.length (cap - 1)
    ·refine fin _ (by show _ = rawO _ _ _ _ _; rfl) (rr_d1 h e g o rest.length cap 6 (fS 6) (fS 6 + fL 6) (fS 6 + fM 6) g o1 rest hl h0 ecap l1 (fun q => by omega) hsh hcut rfl hrc rfl rfl rfl rfl rfl _ (fun W hb' h1 h2 h3 => ?_))
     have n1 : fS 6 + fL 6 ≤ rest.length := h1
     rw [show fS 6 = 0 from by decide, show fL 6 = 1 from by decide] at n1
     exact f_6 (h.below hb') ok hk e (sm rest (fS 6) 0) (sm rest (fS 6) 1) (sm rest (fS 6) 2) g o1 rest.length (cap - 1) (rest.getD 0 0) (cw 0 (by omega) W hb') (by omega) (xp 0)
    ·refine fin _ rfl (rr_d1 h e g o rest.length cap 7 (fS 7) (fS 7 + fL 7) (fS 7 + fM 7) g o1 rest hl h0 ecap l1 (fun q => by omega) hsh hcut rfl hrc rfl rfl rfl rfl rfl _ (fun W hb' h1 h2 h3 => ?_))
     have n1 : fS 7 + fL 7 ≤ rest.length := h1
     rw [show fS 7 = 0 from by decide, show fL 7 = 2 from by decide] at n1
     exact f_7 (h.below hb') ok hk e (sm rest (fS 7) 0) (sm rest (fS 7) 1) (sm rest (fS 7) 2) g o1 rest.length (cap - 1) (rest.getD 0 0) (rest.getD 1 0) (cw 0 (by omega) W hb') (cw 1 (by omega) W hb') (by omega) (xp 0)
    ·refine fin _ rfl (rr_d1 h e g o rest.length cap 8 (fS 8) (fS 8 + fL 8) (fS 8 + fM 8) g o1 rest hl h0 ecap l1 (fun q => by omega) hsh hcut rfl hrc rfl rfl rfl rfl rfl _ (fun W hb' h1 h2 h3 => ?_))
     exact f_8 (h.below hb') ok hk e (sm rest (fS 8) 0) (sm rest (fS 8) 1) (sm rest (fS 8) 2) (some ⟨g, o1, none⟩) rest.length (cap - 1)
    ·refine fin _ rfl (rr_d1 h e g o rest.length cap 9 (fS 9) (fS 9 + fL 9) (fS 9 + fM 9) g o1 rest hl h0 ecap l1 (fun q => by omega) hsh hcut rfl hrc rfl rfl rfl rfl rfl _ (fun W hb' h1 h2 h3 => ?_))
     exact f_9 (h.below hb') ok hk e (sm rest (fS 9) 0) (sm rest (fS 9) 1) (sm rest (fS 9) 2) (some ⟨g, o1, none⟩) rest.length (cap - 1)
    ·refine fin ({ S with vs := Ex.kwriteV S.T S.n S.vs e (sm rest (fS 10) 0) (sm rest (fS 10) 1) (rest.getD 2 0), T := S.T, F := S.F }, [], Ex.kwriteR S.T S.n e (sm rest (fS 10) 0) (sm rest (fS 10) 1)) (by show _ = (({ S with vs := Ex.kwriteV S.T S.n S.vs e (sm rest (fS 10) 0) (sm rest (fS 10) 1) ((rest.drop (fS 10)).getD 0 0), T := S.T, F := S.F }, [], Ex.kwriteR S.T S.n e (sm rest (fS 10) 0) (sm rest (fS 10) 1)) : XS × List Int × Int); rw [drop_getD]; rfl) (rr_d1 h e g o rest.length cap 10 (fS 10) (fS 10 + fL 10) (fS 10 + fM 10) g o1 rest hl h0 ecap l1 (fun q => by omega) hsh hcut rfl hrc rfl rfl rfl rfl rfl _ (fun W hb' h1 h2 h3 => ?_))
     have n1 : fS 10 + fL 10 ≤ rest.length := h1
     rw [show fS 10 = 2 from by decide, show fL 10 = 1 from by decide] at n1
     exact f_10 (h.below hb') ok hk e (sm rest (fS 10) 0) (sm rest (fS 10) 1) (sm rest (fS 10) 2) g o1 rest.length (cap - 1) (rest.getD 2 0) (cw 2 (by omega) W hb') (by omega)
    ·refine fin _ rfl (rr_b h e g o rest.length cap 11 (fS 11) (fS 11 + fL 11) (fS 11 + fM 11) g o1 rest hl h0 ecap l1 (fun q => by omega) hsh hcut rfl hrc rfl rfl rfl rfl rfl _ (fun W hb' h1 h2 h3 => ?_))
     have n1 : fS 11 + fL 11 ≤ rest.length := h1
     rw [show fS 11 = 1 from by decide, show fL 11 = 0 from by decide] at n1
     exact f_11 (h.below hb') ok hk e (sm rest (fS 11) 0) (sm rest (fS 11) 1) (sm rest (fS 11) 2) g o1 rest.length (cap - 1) (some (sfx g o1 (cap - 1) 1)) (cap - 1 - 1) (rest.drop 1) (fun U => by have := cut_from g o1 rest.length (cap - 1) 1 (by omega) U; rw [show ((1 : Nat) : Int) = 1 from rfl] at this; rw [this, List.length_drop]) (hdrop 1 (by omega) (by omega) W hb') a' c'
    ·refine fin _ rfl (rr_d2 h e g o rest.length cap 12 (fS 12) (fS 12 + fL 12) (fS 12 + fM 12) g o1 rest hl h0 ecap l1 (fun q => by omega) hsh hcut rfl hrc rfl rfl rfl rfl rfl _ (fun W hb' h1 h2 h3 => ?_))
     have := s_12 (h.below hb') hk e (sm rest (fS 12) 0) (sm rest (fS 12) 1) (sm rest (fS 12) 2) hm (some ⟨g, o1, none⟩) rest.length (cap - 1)
     exact this
    ·refine fin _ rfl (rr_d2 h e g o rest.length cap 13 (fS 13) (fS 13 + fL 13) (fS 13 + fM 13) g o1 rest hl h0 ecap l1 (fun q => by omega) hsh hcut rfl hrc rfl rfl rfl rfl rfl _ (fun W hb' h1 h2 h3 => ?_))
     exact s_13 (h.below hb') ok hk e (sm rest (fS 13) 0) (sm rest (fS 13) 1) (sm rest (fS 13) 2) (some ⟨g, o1, none⟩) rest.length (cap - 1) (sm_in hur h3) (sm_in hur h3)
    ·refine fin _ rfl (rr_a2 h e g o rest.length cap 14 (fS 14) (fS 14 + fL 14) (fS 14 + fM 14) g o1 rest hl h0 ecap l1 (fun q => by omega) hsh hcut rfl hrc rfl rfl rfl rfl rfl _ (fun W hb' h1 h2 h3 => ?_))
     exact s_14 (h.below hb') ok hk e (sm rest (fS 14) 0) (sm rest (fS 14) 1) (sm rest (fS 14) 2) (some ⟨g, o1, none⟩) rest.length (cap - 1)
    ·refine fin _ rfl (rr_d2 h e g o rest.length cap 15 (fS 15) (fS 15 + fL 15) (fS 15 + fM 15) g o1 rest hl h0 ecap l1 (fun q => by omega) hsh hcut rfl hrc rfl rfl rfl rfl rfl _ (fun W hb' h1 h2 h3 => ?_))
     exact s_15 (h.below hb') ok hk e (sm rest (fS 15) 0) (sm rest (fS 15) 1) (sm rest (fS 15) 2) (some ⟨g, o1, none⟩) rest.length (cap - 1)
    ·refine fin _ rfl (rr_d2 h e g o rest.length cap 16 (fS 16) (fS 16 + fL 16) (fS 16 + fM 16) g o1 rest hl h0 ecap l1 (fun q => by omega) hsh hcut rfl hrc rfl rfl rfl rfl rfl _ (fun W hb' h1 h2 h3 => ?_))
     exact s_16 (h.below hb') ok hk e (sm rest (fS 16) 0) (sm rest (fS 16) 1) (sm rest (fS 16) 2) (some ⟨g, o1, none⟩) rest.length (cap - 1) (sm_in hur h3)
    ·refine fin _ rfl (rr_d2 h e g o rest.length cap 17 (fS 17) (fS 17 + fL 17) (fS 17 + fM 17) g o1 rest hl h0 ecap l1 (fun q => by omega) hsh hcut rfl hrc rfl rfl rfl rfl rfl _ (fun W hb' h1 h2 h3 => ?_))
     have n1 : fS 17 + fL 17 ≤ rest.length := h1
     rw [show fS 17 = 2 from by decide, show fL 17 = 32 from by decide] at n1
     exact s_17 (h.below hb') ok hk e (sm rest (fS 17) 0) (sm rest (fS 17) 1) (sm rest (fS 17) 2) g o1 rest.length (cap - 1) (some (sfx g o1 (cap - 1) 2)) (cap - 1 - 2) (rest.drop 2) (sm_in hur h3) (fun U => by have := cut_from g o1 rest.length (cap - 1) 2 (by omega) U; rw [show ((2 : Nat) : Int) = 2 from rfl] at this; rw [this, List.length_drop]) (fun w' hw => ⟨_, _, rfl, by rw [List.length_drop]; omega, hdrop 2 (by omega) (by omega) W hb' w' hw⟩)
   ·have e1 : rawS S e (y :: rest) a' c' = (S, [], 101) := by
     unfold rawS
     rw [hl]
     show (match (if y < 18 then _ else _ : Option Rqt) with | none => _ | some r => _) = _
     rw [if_neg hb]
    rw [e1]
    exact rr_big h e g o rest.length cap y hl h0 (by omega) _ _ hcut
end Go.Proofs.YtbhpafgoofkkmaaGreatDoor
