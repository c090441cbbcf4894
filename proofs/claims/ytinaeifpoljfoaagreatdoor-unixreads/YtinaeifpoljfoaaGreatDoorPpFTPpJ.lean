import Derived.Test.YtinaeifpoljfoaaGreatDoorPpDTPpE
set_option linter.all false
set_option maxRecDepth 100000
set_option maxHeartbeats 16000000
namespace Go.Proofs.YtinaeifpoljfoaaGreatDoor
open Go.RowKit Go.Lib
namespace Ow
end Ow
namespace Pp
open Ow
theorem nums_take {l : List UInt8} {k : Nat} (h : k < l.length) : nums (l.take (k + 1)) = nums (l.take k) ++ [byt l k] := by
 rw [take_snoc (List.getElem?_eq_getElem h), nums_app, byt_get (List.getElem?_eq_getElem h)]
 rfl
theorem appendBytes_at (B n c g cp : Nat) (a : Option Addr) (D : List Int) (l : List UInt8) (w : World) (ho : w.ownsRow B 45 1 (.slice a n c) D.length (uvs D)) (hn : D.length = n) (hB : B ≤ w.heap.size) (hD : n ≤ 1000) (hbt : Bt w g l) (hl : l.length ≤ 8) :
  Calls Tryz.prog 57 #[.slice a n c, .slice (some ⟨g, 0, none⟩) l.length cp] w fun x w' => ∃ a' n' c', x = .returned (.slice a' n' c') ∧ n' = (D ++ (l.length : Int) :: nums l).length ∧ w'.ownsRow B 45 1 (.slice a' n' c') (D ++ (l.length : Int) :: nums l).length (uvs (D ++ (l.length : Int) :: nums l)) ∧ UW B w w' := by
 generalize hL : l.length = L at *
 have hwl : IntKind.u64.wrap (L : Int) = (L : Int) := by simp [IntKind.wrap, IntKind.bits, IntKind.signed]; omega
 obtain ⟨a1, c1, w1, hrun, hown, hU⟩ := app1 ho hn hB (by omega) (L : Int);have HRun : Hid _ := hrun;have HLl := hid hL;have HO1 := hid hown;have HBt := hid hbt;have HU := hid hU;have HN := hid hn;clear hrun hown hbt hU hL ho hn
 go_enter Tryz.func57, Tryz.ntmps57
 go_wp2_with (at_builtin; refine wpList_append_eq rfl _ _ _ rfl _ _ _ rfl rfl HRun.out ?_)
 clear HRun
 go_loopw [0, 15] (fun s i wr => ∃ (k : Nat) (ak : Option Addr) (ck nk : Nat), k ≤ L ∧ i = .int .i64 k ∧ .slice ak nk ck = s ∧ nk = n + 1 + k ∧ wr.ownsRow B 45 1 (.slice ak nk ck) (D ++ (L : Int) :: nums (l.take k)).length (uvs (D ++ (L : Int) :: nums (l.take k))) ∧ UW B w wr) (fun _ i _ => L - (intOf i).toNat)
 case atStart => exact ⟨0, a1, c1, n + 1, by omega, rfl, rfl, rfl, HO1.out, HU.out⟩
 case round =>
  clear HO1 HU;obtain ⟨k, ak, ck, nk, hk, rfl, rfl, hnk, hown, hU⟩ := hrel;have HU := hid hU;have HNk := hid hnk
  by_cases hlt : k < L
  ·have g0 : decide ((k : Int) < (L : Int)) = true := decide_eq_true (by omega)
   have hki : (k : Int) < (L : Int) := by omega
   have hkl : k < l.length := by rw [HLl.out]; exact hlt
   have c0 := (hU.bt HBt.out).cell hkl;have hb := byt_le l k
   have hwb : IntKind.u64.wrap (byt l k) = byt l k := by
    obtain ⟨h1, h2⟩ := hb;simp [IntKind.wrap, IntKind.bits, IntKind.signed];omega
   have hlen : (D ++ (L : Int) :: nums (l.take k)).length = nk := by
    rw [List.length_append, List.length_cons, nums_len, List.length_take, HN.out, HLl.out, hnk];omega
   have hsz := Nat.le_trans hB hU.bel.size;obtain ⟨a2, c2, w2, hrun, hown2, hU2⟩ := app1 hown hlen hsz (by omega) (byt l k)
   have hT : (D ++ (L : Int) :: nums (l.take k)) ++ [byt l k] = D ++ (L : Int) :: nums (l.take (k + 1)) := by rw [nums_take hkl]; simp
   rw [hT] at hown2;have HRun : Hid _ := hrun;have HO2 := hid hown2;have HU2 : Hid (UW B w w2) := hU.trans hU2;generalize byt l k = z at *;clear hrun hown2 hU2 hT hlen hown hU hb hkl hnk
   go_wp2_with (at_builtin; refine wpList_append_eq rfl _ _ _ rfl _ _ _ rfl rfl HRun.out ?_)
   go_roundw
   case rel => exact ⟨k + 1, a2, c2, nk + 1, by omega, by go_num, rfl, by have := HNk.out; omega, HO2.out, HU2.out⟩
   case measure => simp [intOf]; omega
  ·obtain rfl : k = L := by omega
   have g0 : decide ((k : Int) < (k : Int)) = false := decide_eq_false (by omega)
   have hTk : l.take k = l := by rw [← HLl.out, List.take_length]
   rw [hTk] at hown;have HO := hid hown;clear hown hU hnk hTk;go_wp2;go_ret;refine ⟨ak, nk, ck, rfl, ?_, HO.out, HU.out⟩;rw [List.length_append, List.length_cons, nums_len, HN.out, HLl.out, HNk.out];omega
end Pp
namespace Ow
end Ow
namespace Pp
open Ow
theorem encode_at (b : Nat) (S : PS) (w : World) (h : PpAt w b S) :
  Calls Tryz.prog 24 #[.pointer (some ⟨b, 0, none⟩)] w fun x w' => ∃ v, x = .returned v ∧ w'.ownsRow w.heap.size 45 1 v (encS S).length (uvs (encS S)) ∧ Below w.heap.size w w' := by
 have HF : Hid (Fit8 S) := h.fits;obtain ⟨row, hP, hR⟩ := h;have hne := ptr_eq b;have HL : Hid (w.rangeAt b 0 (mvs S)) := mvs_range hP hR;have HP := hid hP;have HR := hid hR;have hll : (mvs S).length = 16 := mvs_len S;clear hP hR
 go_enter Tryz.func24, Tryz.ntmps24
 go_wp2_with (first | (refine wpList_load_mid rfl 114 _ rfl b 0 rfl (mvs S) _ HL.out Tryz.underlying114 rfl (by rw [hll]; exact bools16) ?_) | go_in)
 clear HL hll
 go_loopw [3, 12] (fun s i wr => ∃ (k : Nat) (ak : Option Addr) (nk ck : Nat), k ≤ 16 ∧ i = .int .i64 k ∧ .slice ak nk ck = s ∧ nk = (encK S k).length ∧ wr.ownsRow w.heap.size 45 1 (.slice ak nk ck) (encK S k).length (uvs (encK S k)) ∧ UW w.heap.size w wr) (fun _ i _ => 16 - (intOf i).toNat)
 case atStart => exact ⟨0, none, 0, 0, by omega, rfl, rfl, rfl, World.ownsRow_nil w _ _ 1, UW.refl _ _⟩
 case round =>
  obtain ⟨k, ak, nk, ck, hk, rfl, rfl, hnk, hown, hU⟩ := hrel;have HU := hid hU
  by_cases hlt : k < 16
  ·have i1 : decide ((k : Int) < 16) = true := decide_eq_true (by omega)
   have hki : (k : Int) < 16 := by omega
   have hix := made_index S k hlt;have hel := encK_len HF.out k (by omega)
   cases hs : S k with
   | none =>
    rw [hs] at hix;dsimp only [Option.isSome] at hix
    have HE : Hid (encK S (k + 1) = encK S k ++ [0]) := by show _ = _; simp only [encK]; rw [hs]; rfl
    obtain ⟨a2, c2, w2, hrun, hown2, hU2⟩ := app1 hown hnk.symm hU.bel.size (by omega) 0;rw [← HE.out] at hown2;have HRun : Hid _ := hrun;have HO2 := hid hown2;have HU2 : Hid (UW w.heap.size w w2) := hU.trans hU2
    have HN : Hid (nk + 1 = (encK S (k + 1)).length) := by show _ = _; rw [HE.out, List.length_append, ← hnk]; rfl
    clear hrun hown2 hU2 hs hown hU hnk hel HE
    go_wp2_with (at_builtin; refine wpList_append_eq rfl _ _ _ rfl _ _ _ rfl rfl HRun.out ?_)
    go_roundw
    case rel => exact ⟨k + 1, a2, nk + 1, c2, by omega, by go_num, rfl, HN.out, HO2.out, HU2.out⟩
    case measure => simp [intOf]; omega
   | some l =>
    rw [hs] at hix;dsimp only [Option.isSome] at hix;have hl8 := HF.out k l hlt hs;obtain ⟨e, hr⟩ := HR.out.ring k hlt;rw [hs] at hr;have HRg := hid hr
    have HE : Hid (encK S (k + 1) = (encK S k ++ [1]) ++ (l.length : Int) :: nums l) := by show _ = _; simp only [encK]; rw [hs]; simp [encO]
    obtain ⟨a2, c2, w2, hrun, hown2, hU2⟩ := app1 hown hnk.symm hU.bel.size (by omega) 1;have HRun : Hid _ := hrun
    have hn2 : (encK S k ++ [1]).length = nk + 1 := by rw [List.length_append, ← hnk]; rfl
    have HO2 := hid hown2;have HU2 : Hid (UW w.heap.size w w2) := hU.trans hU2;have hBy := bytes_at b (16 + k * 17) e l row w2 (HU2.out.pb HP.out) hr;have HN2 := hid hn2
    have hnk9 : nk ≤ 160 := by omega
    clear hrun hown2 hU2 hs hown hU hr hnk hn2 hel;generalize hLL : l.length = ll at *;have HLl := hid hLL;clear hLL
    go_wp2_with (first | (at_builtin; refine wpList_append_eq rfl _ _ _ rfl _ _ _ rfl rfl HRun.out ?_) | fail)
    refine hBy.mono ?_;rintro x w3 ⟨g, rfl, hg, hbt, hb3⟩;have hU3 : UW w.heap.size w2 w3 := UW.of_below HU2.out.bel.size hb3;have hO3 := ownsRow_below HO2.out hb3;have hAp := appendBytes_at w.heap.size (nk + 1) c2 g l.length a2 (encK S k ++ [1]) l w3 hO3 HN2.out (HU2.out.trans hU3).bel.size (by omega) hbt (by rw [HLl.out]; exact hl8);rw [HLl.out, ← HE.out] at hAp;have HU3 : Hid (UW w.heap.size w w3) := HU2.out.trans hU3;clear hbt hb3 hO3 hBy hU3 hg HU2 HO2 HRun
    go_wp2_with fail
    refine hAp.mono ?_;rintro x w4 ⟨a4, n4, c4, rfl, hn4, hown4, hU4⟩;have HN4 := hid hn4;have HO4 := hid hown4;have HU4 : Hid (UW w.heap.size w w4) := HU3.out.trans hU4;clear hn4 hown4 hU4 hAp HE;go_wp2;go_roundw
    case rel => exact ⟨k + 1, a4, n4, c4, by omega, by go_num, rfl, HN4.out, HO4.out, HU4.out⟩
    case measure => simp [intOf]; omega
  ·have i1 : decide ((k : Int) < 16) = false := decide_eq_false (by omega)
   have hk16 : k = 16 := by omega
   rw [hk16] at hown;have HO := hid hown;clear hown hU hnk hk16;go_wp2;go_ret;exact ⟨_, rfl, HO.out, HU.out.bel⟩
end Pp
namespace Ow
end Ow
namespace Pp
open Ow
theorem elemW : Tryz.prog.elem 22 = 45 := by kernel_rfl
def U64 (ws : List Int) : Prop := ∀ x ∈ ws, 0 ≤ x ∧ x < 18446744073709551616
theorem u64_get {ws : List Int} (h : U64 ws) {j : Nat} {x : Int} (hx : ws[j]? = some x) : 0 ≤ x ∧ x < 18446744073709551616 := h x (List.mem_of_getElem? hx)
theorem U64.drop {ws : List Int} (h : U64 ws) (n : Nat) : U64 (ws.drop n) := fun x hx => h x (List.mem_of_mem_drop hx)
theorem cut_wl (D : List Int) (a : Option Addr) (len cap j : Nat) (hl : len = D.length) (hj : j ≤ len) (hcap : len ≤ cap) : ∃ a2 c2, (∀ V, (Instr.slice 22 (.slice a len cap) (some (.int .i64 (j : Int))) none none).run Tryz.prog V = .ok (.slice a2 (len - j) c2) V) ∧ len - j ≤ c2 ∧ (∀ W, Rd W a D → Rd W a2 (D.drop j)) := by
 obtain ⟨i0, hi0, hzz⟩ := Option.map_eq_some_iff.1 wordInfo;simp only [Prod.mk.injEq] at hzz;refine ⟨if cap = j then a else a.map (·.add (j * 1)), cap - j, fun V => ?_, by omega, fun W ha => ?_⟩
 ·have hk0 : (j : Int) ≤ (len : Int) := by omega
  rw [run_slice_l V 22 _ _ _ Tryz.underlying22 _ _ (by omega) hk0];simp [sizeOf, typeInfo, elemW, hi0, sliced, hzz.2.1]
 ·intro i x hx
  rw [List.getElem?_drop] at hx;have hlt := (List.getElem?_eq_some_iff.1 hx).1;obtain ⟨g, off, e, hc⟩ := ha (j + i) x hx;refine ⟨g, off + j, ?_, ?_⟩
  ·rw [if_neg (by omega), e]
   simp [Addr.add]
  ·rw [Nat.add_assoc]
   exact hc
theorem okB_no {ws : List Int} {m k : Nat} {x : Int} (hx : ws[k]? = some x) (hk : k < m) (h : 255 < x) : okB (ws.take m) = false := by
 cases hb : okB (ws.take m) with
 | false => rfl
 | true =>
  unfold okB at hb;rw [List.all_eq_true] at hb;have := hb x (List.mem_of_getElem? (i := k) (by rw [List.getElem?_take_of_lt hk]; exact hx));simp only [Bool.and_eq_true, decide_eq_true_eq] at this;omega
theorem okB_all {ws : List Int} {m : Nat} (h : ∀ j x, j < m → ws[j]? = some x → 0 ≤ x ∧ x ≤ 255) : okB (ws.take m) = true := by
 unfold okB;rw [List.all_eq_true];intro x hx;obtain ⟨j, hj⟩ := List.mem_iff_getElem?.1 hx;have hl := (List.getElem?_eq_some_iff.1 hj).1;rw [List.length_take] at hl;rw [List.getElem?_take_of_lt (by omega)] at hj;have := h j x (by omega) hj;rw [decide_eq_true this.1, decide_eq_true this.2]
 rfl
theorem byt_unB {ws : List Int} {m k : Nat} {x : Int} (hx : ws[k]? = some x) (hk : k < m) (h0 : 0 ≤ x) (h : x ≤ 255) : byt (unB (ws.take m)) k = x := by
 have h1 : (unB (ws.take m))[k]? = some (UInt8.ofNat (x % 256).toNat) := by
  unfold unB;rw [List.getElem?_map, List.getElem?_take_of_lt hk, hx]
  rfl
 rw [byt_get h1, show (x % 256).toNat = x.toNat by omega];simp;omega
theorem readBytes_at (a : Option Addr) (n cap : Nat) (D : List Int) (w : World) (hr : Rd w a D) (hn : n = D.length) (hu : U64 D) (hn9 : n ≤ 3000) :
  Calls Tryz.prog 95 #[.slice a n cap] w fun x w' => (rdB D = none → x = .returned (.tuple #[.slice none 0 0, .bool false])) ∧ (∀ l, rdB D = some l → ∃ g, x = .returned (.tuple #[.slice (some ⟨g, 0, none⟩) l.length l.length, .bool true]) ∧ w.heap.size ≤ g ∧ Bt w' g l) ∧ Below w.heap.size w w' := by
 cases D with
 | nil =>
  obtain rfl : n = 0 := hn;clear hr hu hn9
  go_enter Tryz.func95, Tryz.ntmps95
  go_wp2
  go_ret2
  exact ⟨fun _ => rfl, fun l h => (by cases h), Below.refl _ _⟩
 | cons c t =>
  obtain ⟨g, off, rfl, c0⟩ := hr 0 c rfl;have hb := u64_get hu (j := 0) (x := c) rfl;rw [Nat.add_zero] at c0;have hnl : n = t.length + 1 := hn
  have n0 : (0 : Int) < (n : Int) := by omega
  have n1 : ((n : Int) == 0) = false := beq_false_of_ne (by omega)
  have n0' : 0 < n := by omega
  have hw1 : IntKind.i64.wrap ((n : Int) - 1) = (n : Int) - 1 := by simp [IntKind.wrap, IntKind.bits, IntKind.signed]; omega
  have hw2 : IntKind.u64.wrap ((n : Int) - 1) = (n : Int) - 1 := by simp [IntKind.wrap, IntKind.bits, IntKind.signed]; omega
  have HRd := hid hr;have HU := hid hu;have HNl := hid hnl;obtain ⟨hb0, hb1⟩ := hb;clear hr hn hu
  by_cases h8 : 8 < c
  ·have HN : Hid (rdB (c :: t) = none) := by show _ = _; rw [rdB, if_pos (Or.inl h8)]
   have g1 : decide (8 < c) = true := decide_eq_true h8;clear hnl
   go_enter Tryz.func95, Tryz.ntmps95
   go_wp2
   go_ret2
   exact ⟨fun _ => rfl, fun l h => (by rw [HN.out] at h; cases h), Below.refl _ _⟩
  ·have g1 : decide (8 < c) = false := decide_eq_false h8
   by_cases hl : (n : Int) - 1 < c
   ·have HN : Hid (rdB (c :: t) = none) := by show _ = _; rw [rdB, if_pos (Or.inr (by omega))]
    have g2 : decide ((n : Int) - 1 < c) = true := decide_eq_true hl;clear hnl
    go_enter Tryz.func95, Tryz.ntmps95
    go_wp2
    go_ret2
    exact ⟨fun _ => rfl, fun l h => (by rw [HN.out] at h; cases h), Below.refl _ _⟩
   ·have g2 : decide ((n : Int) - 1 < c) = false := decide_eq_false hl
    obtain ⟨m, rfl⟩ : ∃ m : Nat, c = (m : Int) := ⟨c.toNat, by omega⟩
    have hw3 : IntKind.i64.wrap (m : Int) = (m : Int) := by simp [IntKind.wrap, IntKind.bits, IntKind.signed]; omega
    have hm8 : m ≤ 8 := by omega
    have hmt : m ≤ t.length := by omega
    have hmn : m + 1 ≤ n := by omega
    have HD : Hid (rdB ((m : Int) :: t) = if okB (t.take m) then some (unB (t.take m)) else none) := by show _ = _; rw [rdB, if_neg (by omega), Int.toNat_natCast]
    have hmk := make_bytes m hm8
    have hll : (unB (t.take m)).length = m := by rw [unB_len, List.length_take]; omega
    have HLL := hid hll
    have HZ : Hid (brow (unB (t.take m)) 0 = Array.replicate m (.int .u8 0)) := by show _ = _; rw [brow_zero, hll]
    have HSt : Hid (∀ k x, k < m → t[k]? = some x → 0 ≤ x → x ≤ 255 → (brow (unB (t.take m)) k).setIfInBounds k (.int .u8 x) = brow (unB (t.take m)) (k + 1)) := fun k x hk hx h0 h1 => by
     have := brow_set (unB (t.take m)) k (by rw [hll]; exact hk);rw [byt_unB hx hk h0 h1] at this;exact this
    have HFin : Hid (∀ W g, W.heap[g]? = some (.cells (brow (unB (t.take m)) m) 5 (0, 0)) → Bt W g (unB (t.take m))) := fun W g h => brow_bt (by rw [hll]; exact h)
    have HGet : Hid (∀ k, k < m → (brow (unB (t.take m)) k)[k]? = some (.int .u8 0)) := fun k hk => by rw [brow_get _ k k (by rw [hll]; exact hk), if_neg (by omega)]
    clear hnl hll h8 hl
    go_enter Tryz.func95, Tryz.ntmps95
    go_wp2;rw [← HZ.out];clear hmk HZ;have HN0 : Hid ((w.alloc (.cells (brow (unB (t.take m)) 0) 5)).heap[w.heap.size]? = some (.cells (brow (unB (t.take m)) 0) 5 (0, 0))) := heap_alloc_new _ _;have HB2 : Hid (Below w.heap.size w (w.alloc (.cells (brow (unB (t.take m)) 0) 5))) := below_alloc _ _;generalize w.alloc (.cells (brow (unB (t.take m)) 0) 5) = W0 at *;obtain ⟨G, hG⟩ : ∃ G, G = w.heap.size := ⟨_, rfl⟩;rw [← hG] at HN0 ⊢;have HG := hid hG;clear hG c0
    go_loopw [32] (fun i wr => ∃ (k : Nat), k ≤ m ∧ i = .int .i64 k ∧ (∀ j x, j < k → t[j]? = some x → 0 ≤ x ∧ x ≤ 255) ∧ wr.heap[G]? = some (.cells (brow (unB (t.take m)) k) 5 (0, 0)) ∧ Below w.heap.size w wr) (fun i _ => m - (intOf i).toNat)
    case atStart => exact ⟨0, by omega, rfl, fun j x hj => by omega, HN0.out, HB2.out⟩
    case round =>
     clear HN0 HB2;obtain ⟨k, hk, rfl, hall, hN, hB⟩ := hrel;have HB := hid hB;have HN := hid hN;have HAll := hid hall
     by_cases hlt : k < m
     ·have i1 : decide ((k : Int) < (m : Int)) = true := decide_eq_true (by omega)
      have hki : (k : Int) < (m : Int) := by omega
      obtain ⟨x, hx⟩ : ∃ x, t[k]? = some x := ⟨t[k], List.getElem?_eq_getElem (by omega)⟩;have hxu := u64_get HU.out (j := k + 1) (x := x) (by simpa using hx);obtain ⟨_, _, e1, d0⟩ := HRd.out (k + 1) x (by simpa using hx);simp only [Option.some.injEq, Addr.mk.injEq, and_true] at e1;obtain ⟨rfl, rfl⟩ := e1;have d1 := (hB.cell (cell_lt d0)).trans d0
      have d2 : wr.cell? ⟨g, off + (1 + k), none⟩ = some (.int .u64 x) := by rw [Nat.add_comm 1 k]; exact d1
      have hgl : g ≠ G := by have := cell_lt d0; have := HG.out; show g ≠ G; dsimp only at *; omega
      have hsum : IntKind.i64.wrap (1 + (k : Int)) = 1 + (k : Int) := by simp [IntKind.wrap, IntKind.bits, IntKind.signed]; omega
      have hin : 1 + (k : Int) < (n : Int) := by omega
      have hin2 : 1 + k < n := by omega
      have z1 : wr.cell? ⟨G, k, none⟩ = some (.int .u8 0) := (cell_of_heap hN).trans (HGet.out k hlt);have f1 : wr.frozen? ⟨G, k, none⟩ = false := frozen_of_heap hN;have HX := hid hx;obtain ⟨x0, x1⟩ := hxu
      by_cases h255 : 255 < x
      ·have i2 : decide (255 < x) = true := decide_eq_true h255
       have HNo : Hid (rdB ((m : Int) :: t) = none) := by show _ = _; rw [HD.out, okB_no hx hlt h255]; rfl
       clear hx hB hN hall d0 d1;go_wp2
       go_ret2
       exact ⟨fun _ => rfl, fun l h => (by rw [HNo.out] at h; cases h), HB.out⟩
      ·have i2 : decide (255 < x) = false := decide_eq_false h255
       have hw8 : IntKind.u8.wrap x = x := by simp [IntKind.wrap, IntKind.bits, IntKind.signed]; omega
       have HS : Hid ((brow (unB (t.take m)) k).setIfInBounds k (.int .u8 x) = brow (unB (t.take m)) (k + 1)) := HSt.out k x hlt hx x0 (by omega)
       have HAll2 : Hid (∀ j y, j < k + 1 → t[j]? = some y → 0 ≤ y ∧ y ≤ 255) := fun j y hj hy => by
        rcases Nat.lt_or_ge j k with q | q
        ·exact HAll.out j y q hy
        ·have : j = k := by omega
         rw [this, HX.out] at hy;have := Option.some.inj hy;omega
       clear hx hB hN hall d0 d1;go_wp2;go_roundw
       case rel =>
        refine ⟨k + 1, by omega, by go_num, HAll2.out, ?_, HB.out.trans ((Upd.setCell G k _ _).below (by have := HG.out; omega) HB.out.size)⟩;rw [setCell_eq_setRow wr G k _ _ _ _ HN.out, setRow_heap wr G _ _ _ _ HN.out, HS.out]
       case measure => simp [intOf]; omega
     ·obtain rfl : k = m := by omega
      have i1 : decide ((k : Int) < (k : Int)) = false := decide_eq_false (by omega)
      have HYes : Hid (rdB ((k : Int) :: t) = some (unB (t.take k))) := by show _ = _; rw [HD.out, if_pos (okB_all HAll.out)]
      clear hB hN hall;go_wp2
      go_ret2
      refine ⟨fun h => (by rw [HYes.out] at h; cases h), fun l h => ?_, HB.out⟩;rw [HYes.out] at h
      cases h
      refine ⟨G, ?_, by have := HG.out; omega, HFin.out _ _ HN.out⟩;rw [HLL.out]
      rfl
end Pp
namespace Ow
end Ow
namespace Pp
open Ow
theorem ps_set_none {S : PS} {i : Nat} (h : S i = none) : S.set i none = S := by
 funext k
 by_cases e : k = i
 ·rw [e, PS.set_same, h]
 ·exact PS.set_other _ _ _ _ e
theorem putL_nil {l : List UInt8} (h : l.length ≤ 8) : putL [] l = l := by
 unfold putL;rw [List.nil_append, List.take_of_length_le (by simpa using h)]
theorem rdB_len {w : List Int} {l : List UInt8} (h : rdB w = some l) : l.length ≤ 8 ∧ 1 + l.length ≤ w.length := by
 cases w with
 | nil => cases h
 | cons c t =>
  rw [rdB] at h
  by_cases h2 : 8 < c ∨ (t.length : Int) < c
  ·rw [if_pos h2] at h; cases h
  ·rw [if_neg h2] at h
   by_cases h3 : okB (t.take c.toNat) = true
   ·rw [if_pos h3] at h
    cases h
    rw [unB_len, List.length_take, List.length_cons];omega
   ·rw [if_neg h3] at h; cases h
theorem read_at (b i : Nat) (S : PS) (a : Option Addr) (n cap : Nat) (D : List Int) (w : World) (h : PpAt w b S) (hi : i < 16) (hs : S i = none) (hr : Rd w a D) (hn : n = D.length) (hcap : n ≤ cap) (hu : U64 D) (hn9 : n ≤ 3000) :
  Calls Tryz.prog 43 #[.pointer (some ⟨b, 0, none⟩), .int .i64 i, .slice a n cap] w fun x w' => (rd1 D = none → x = .returned (.tuple #[.int .i64 0, .bool false])) ∧ (∀ m o, rd1 D = some (m, o) → x = .returned (.tuple #[.int .i64 (m : Nat), .bool true]) ∧ PpAt w' b (S.set i o)) ∧ Upd b w w' := by
 cases D with
 | nil =>
  obtain rfl : n = 0 := hn;clear hr hu hn9 h hs hcap
  go_enter Tryz.func43, Tryz.ntmps43
  go_wp2
  go_ret2
  exact ⟨fun _ => rfl, fun m o h => (by cases h), Upd.refl _ _⟩
 | cons c t =>
  obtain ⟨g, off, rfl, c0⟩ := hr 0 c rfl;have hb := u64_get hu (j := 0) (x := c) rfl;rw [Nat.add_zero] at c0;have hnl : n = t.length + 1 := hn
  have n0 : (0 : Int) < (n : Int) := by omega
  have n1 : ((n : Int) == 0) = false := beq_false_of_ne (by omega)
  have n0' : 0 < n := by omega
  have HH := hid h;have HS0 := hid hs;obtain ⟨hb0, hb1⟩ := hb
  by_cases h1 : 1 < c
  ·have HN : Hid (rd1 (c :: t) = none) := by show _ = _; rw [rd1, if_pos h1]
   have g1 : decide (1 < c) = true := decide_eq_true h1;clear hnl hr hu hn h hs
   go_enter Tryz.func43, Tryz.ntmps43
   go_wp2
   go_ret2
   exact ⟨fun _ => rfl, fun m o h => (by rw [HN.out] at h; cases h), Upd.refl _ _⟩
  ·have g1 : decide (1 < c) = false := decide_eq_false h1
   by_cases h0 : c = 0
   ·have HN : Hid (rd1 (c :: t) = some (1, none)) := by show _ = _; rw [rd1, if_neg h1, if_pos h0]
    rw [h0] at c0 HN;have HS1 : Hid (S.set i none = S) := ps_set_none hs;have g2 : decide ((1 : Int) < 0) = false := rfl;clear hnl hr hu hn h hs g1 hb0 hb1 h1;rw [h0];clear h0
    go_enter Tryz.func43, Tryz.ntmps43
    go_wp2
    go_ret2
    refine ⟨fun h => (by rw [HN.out] at h; cases h), fun m o h => ?_, Upd.refl _ _⟩;rw [HN.out] at h
    cases h
    rw [HS1.out];exact ⟨rfl, HH.out⟩
   ·obtain rfl : c = 1 := by omega
    obtain ⟨a2, c2, hcut, hc2, hrd⟩ := cut_wl ((1 : Int) :: t) (some ⟨g, off, none⟩) n cap 1 hn (by omega) hcap;have hRB := readBytes_at a2 (n - 1) c2 t w (hrd w hr) (by omega) (fun x hx => hu x (by simp [hx])) (by omega)
    have HD : Hid (rd1 (1 :: t) = (rdB t).map (fun l => (2 + l.length, some l))) := by show _ = _; rw [rd1, if_neg h1, if_neg h0]
    obtain ⟨row, hP, hR⟩ := h;have hcut' : ∀ V, (Instr.slice 22 (.slice (some ⟨g, off, none⟩) n cap) (some (.int .i64 1)) none none).run Tryz.prog V = .ok (.slice a2 (n - 1) c2) V := hcut;have HP := hid hP;have HR := hid hR;have HTl := hid hnl;clear hrd hnl hr hu hn hs hb0 hb1 hcut hP hR HH;generalize n - 1 = n2 at *
    go_enter Tryz.func43, Tryz.ntmps43
    go_wp2_with fail
    refine hRB.mono ?_;rintro x w1 ⟨hx1, hx2, hb1⟩;have HB1 := hid hb1
    cases hrb : rdB t with
    | none =>
     have hx := hx1 hrb
     have HN : Hid (rd1 (1 :: t) = none) := by show _ = _; rw [HD.out, hrb]; rfl
     subst hx;clear hx1 hx2 hb1 hRB hrb HD;go_wp2
     go_ret2
     exact ⟨fun _ => rfl, fun m o h => (by rw [HN.out] at h; cases h), Upd.of_below HB1.out⟩
    | some l =>
     obtain ⟨G, hx, hG, hbt⟩ := hx2 l hrb;obtain ⟨hl8, hlt⟩ := rdB_len hrb
     have HN : Hid (rd1 (1 :: t) = some (2 + l.length, some l)) := by show _ = _; rw [HD.out, hrb]; rfl
     subst hx;have hP1 := HP.out.below hb1;have c1 := (hP1.cell i).trans (HR.out.made i hi);rw [HS0.out] at c1;dsimp only [Option.isSome] at c1;have f1 := hP1.free i
     have hii : (i : Int) < 16 := by omega
     have hR2 := HR.out.mk' hi HS0.out;obtain ⟨e, hrg⟩ := hR2.ring i hi;rw [PS.set_same] at hrg;have hP2 := hP1.set i (.bool true);have hbt2 : Bt (w1.setCell ⟨b, i, none⟩ (.bool true)) G l := hbt.keep (Below.heap_setCell _ _ _ _ (hbt.ne hP1));have HR2 := hid hR2;have HU1 : Hid (Upd b w (w1.setCell ⟨b, i, none⟩ (.bool true))) := (Upd.of_below hb1).trans (Upd.setCell _ _ _ _)
     have hst := fun c => hbt2.string (cap := c)
     have hPu := rput_at b (16 + i * 17) e [] l (row.setIfInBounds i (.bool true)) (w1.setCell ⟨b, i, none⟩ (.bool true)).drew (PB.drew hP2) hrg
     have hst2 : ∀ c, (convert 137 9 (.slice (some ⟨G, 0, none⟩) l.length c)).run Tryz.prog (w1.setCell ⟨b, i, none⟩ (.bool true)).drew = .ok (tx l) (w1.setCell ⟨b, i, none⟩ (.bool true)).drew := fun c => Bt.string (w := (w1.setCell ⟨b, i, none⟩ (.bool true)).drew) (cap := c) hbt2
     rw [putL_nil hl8] at hPu;have HLn : Hid (2 + l.length = 2 + l.length) := rfl
     have hsum : IntKind.i64.wrap (2 + (l.length : Int)) = 2 + (l.length : Int) := by simp [IntKind.wrap, IntKind.bits, IntKind.signed]; omega
     generalize putN [] l = pn at *;generalize hLL : l.length = ll at *;clear hx1 hx2 hb1 hRB hrb HD hP1 hbt hbt2 hR2 hrg hP2 hLL hst
     go_wp2_with fail
     go_region_with (go_at_call 96; refine hPu.mono ?_; rintro x2 w2 ⟨rfl, row', hP', hr', hsm, hu'⟩)
     all_goals
      have HF : Hid (PpAt w2 b ((S.set i (some [])).set i (some l))) := ⟨row', hP', HR2.out.put hi hsm hr' (by rw [PS.set_same]; rfl)⟩;have HU2 : Hid (Upd b w w2) := (HU1.out.trans (Upd.drew b _)).trans hu';clear hP' hr' hsm hu';go_wp2
      go_ret2
      refine ⟨fun h => (by rw [HN.out] at h; cases h), fun m o h => ?_, HU2.out⟩;rw [HN.out] at h
      cases h
      refine ⟨by simp, ?_⟩;refine HF.out.ext (fun j hj => ?_)
      by_cases ej : j = i
      ·rw [ej, PS.set_same, PS.set_same]
      ·rw [PS.set_other _ _ _ _ ej, PS.set_other _ _ _ _ ej, PS.set_other _ _ _ _ ej]
end Pp
namespace Ow
end Ow
namespace Pp
open Ow
theorem rd1_len {D : List Int} {m : Nat} {o : Option (List UInt8)} (h : rd1 D = some (m, o)) : m ≤ D.length ∧ ∀ l, o = some l → l.length ≤ 8 := by
 cases D with
 | nil => cases h
 | cons c t =>
  rw [rd1] at h
  by_cases h1 : 1 < c
  ·rw [if_pos h1] at h; cases h
  ·rw [if_neg h1] at h
   by_cases h0 : c = 0
   ·rw [if_pos h0] at h
    cases h
    exact ⟨by simp, fun l e => by cases e⟩
   ·rw [if_neg h0] at h
    cases hb : rdB t with
    | none => rw [hb] at h; cases h
    | some l =>
     rw [hb] at h
     cases h
     obtain ⟨h8, hl⟩ := rdB_len hb;exact ⟨by rw [List.length_cons]; omega, fun l' e => by cases e; exact h8⟩
theorem rdK_none {S : PS} {k i : Nat} {w : List Int} (h : rd1 w = none) : rdK S (k + 1) w i = none := by
 rw [rdK, h]
theorem rdK_some {S : PS} {k i m : Nat} {w : List Int} {o : Option (List UInt8)} (h : rd1 w = some (m, o)) : rdK S (k + 1) w i = rdK (S.set i o) k (w.drop m) (i + 1) := by
 rw [rdK, h]
theorem decode_at (a : Option Addr) (n cap : Nat) (D : List Int) (w : World) (hr : Rd w a D) (hn : n = D.length) (hcap : n ≤ cap) (hu : U64 D) (hn9 : n ≤ 3000) :
  Calls Tryz.prog 16 #[.slice a n cap] w fun x w' => (decS D = none → x = .returned (.tuple #[.pointer none, .int .i64 101])) ∧ (∀ S, decS D = some S → x = .returned (.tuple #[.pointer (some ⟨w.heap.size, 0, none⟩), .int .i64 0]) ∧ PpAt w' w.heap.size S) ∧ Below w.heap.size w w' := by
 have hNew := new_at w;have HRd := hid hr;have HU := hid hu;have HN := hid hn;clear hr hu hn
 go_enter Tryz.func16, Tryz.ntmps16
 go_wp2_with fail
 refine hNew.mono ?_;rintro x w1 ⟨rfl, hA, hb1, hs1⟩;obtain ⟨b, hb⟩ : ∃ b, b = w.heap.size := ⟨_, rfl⟩;rw [← hb] at hA hs1 ⊢;have HBb := hid hb;have HA := hid hA;have HB1 := hid hb1;clear hNew hA hb1 hs1 hb;go_wp2
 go_loopw [0, 9] (fun s i wr => ∃ (k : Nat) (ak : Option Addr) (nk ck : Nat) (Dk : List Int) (S : PS), k ≤ 16 ∧ i = .int .i64 k ∧ .slice ak nk ck = s ∧ nk = Dk.length ∧ nk ≤ ck ∧ nk ≤ 3000 ∧ Rd w ak Dk ∧ U64 Dk ∧ decS D = rdK S (16 - k) Dk k ∧ PpAt wr b S ∧ (∀ j, k ≤ j → S j = none) ∧ Below w.heap.size w wr) (fun _ i _ => 16 - (intOf i).toNat)
 case atStart => exact ⟨0, a, n, cap, D, PS.none, by omega, rfl, rfl, HN.out, hcap, hn9, HRd.out, HU.out, rfl, HA.out, fun _ _ => rfl, HB1.out⟩
 case round =>
  clear HA HB1 HRd HU HN hcap hn9;obtain ⟨k, ak, nk, ck, Dk, S, hk, rfl, rfl, hnk, hck, hn9, hRd, hU, hdec, hA, hno, hB⟩ := hrel;have HB := hid hB;have HDec := hid hdec;have HNo := hid hno;have HRd := hid hRd;have HU := hid hU;have HNk := hid hnk;have hbs := HBb.out
  by_cases hlt : k < 16
  ·have i1 : decide ((k : Int) < 16) = true := decide_eq_true (by omega)
   have hki : (k : Int) < 16 := by omega
   have hRe := read_at b k S ak nk ck Dk wr hA hlt (hno k (Nat.le_refl _)) (hRd.below (hB.mono (Nat.le_refl _))) hnk hck hU hn9;have hbl : b < wr.heap.size := hA.lt;rw [show 16 - k = (16 - (k + 1)) + 1 by omega] at HDec;clear hB hdec hno hRd hU hnk hA hbs
   go_wp2_with fail
   refine hRe.mono ?_;rintro x w2 ⟨hx1, hx2, hu2⟩;have HB2 : Hid (Below w.heap.size w w2) := HB.out.trans (hu2.below (by have := HBb.out; omega) HB.out.size)
   cases hrd : rd1 Dk with
   | none =>
    have hx := hx1 hrd
    have HNN : Hid (decS D = none) := by show _ = _; rw [HDec.out, rdK_none hrd]
    subst hx;clear hx1 hx2 hu2 hRe hrd HDec;go_wp2
    go_ret2
    exact ⟨fun _ => rfl, fun T h => (by rw [HNN.out] at h; cases h), HB2.out⟩
   | some z =>
    obtain ⟨m, o⟩ := z;obtain ⟨hx, hA2⟩ := hx2 m o hrd;obtain ⟨hml, -⟩ := rd1_len hrd
    have HD2 : Hid (decS D = rdK (S.set k o) (16 - (k + 1)) (Dk.drop m) (k + 1)) := by show _ = _; rw [HDec.out, rdK_some hrd]
    subst hx;rw [← HNk.out] at hml;obtain ⟨a2, c2, hcut, hc2, hrd2⟩ := cut_wl Dk ak nk ck m HNk.out hml hck;have HR2 : Hid (Rd w a2 (Dk.drop m)) := hrd2 w HRd.out
    have HL2 : Hid (nk - m = (Dk.drop m).length) := by show _ = _; rw [List.length_drop, ← HNk.out]
    have HA2 := hid hA2
    have hn2 : nk - m ≤ 3000 := by omega
    clear hx1 hx2 hu2 hRe hrd HDec hrd2 hA2 HB;generalize nk - m = n2 at *;go_wp2;go_roundw
    case rel => exact ⟨k + 1, a2, n2, c2, Dk.drop m, S.set k o, by omega, by go_num, rfl, HL2.out, hc2, hn2, HR2.out, HU.out.drop m, HD2.out, HA2.out, fun j hj => (by rw [PS.set_other _ _ _ _ (by omega)]; exact HNo.out j (by omega)), HB2.out⟩
    case measure => simp [intOf]; omega
  ·have i1 : decide ((k : Int) < 16) = false := decide_eq_false (by omega)
   have HA := hid hA;rw [show 16 - k = 0 by omega] at HDec
   by_cases h0 : Dk = []
   ·have HS : Hid (decS D = some S) := by show _ = _; rw [HDec.out, rdK, if_pos h0]
    have hz : nk = 0 := by rw [hnk, h0]; rfl
    clear hB hdec hno hRd hU hnk hA hbs h0 HNk HRd HU HDec;subst hz;go_wp2
    go_ret2
    refine ⟨fun h => (by rw [HS.out] at h; cases h), fun T h => ?_, HB.out⟩;rw [HS.out] at h
    cases h
    rw [← HBb.out];exact ⟨rfl, HA.out⟩
   ·have HS : Hid (decS D = none) := by show _ = _; rw [HDec.out, rdK, if_neg h0]
    have hz : nk ≠ 0 := by
     rw [hnk]
     exact fun e => h0 (List.eq_nil_of_length_eq_zero e)
    have g2 : ((nk : Int) == 0) = false := beq_false_of_ne (by omega);clear hB hdec hno hRd hU hnk hA hbs h0 HNk HRd HU HDec;go_wp2
    go_ret2
    exact ⟨fun _ => rfl, fun T h => (by rw [HS.out] at h; cases h), HB.out⟩
end Pp
end Go.Proofs.YtinaeifpoljfoaaGreatDoor
