import Derived.Test.YtbhpafgoofkkmaaGreatDoorIntsR
set_option linter.all false
namespace Go.Proofs.YtbhpafgoofkkmaaGreatDoor
open Go.RowKit
namespace En
def PRow (w : World) (P : Nat → Prop) (a : Option Addr) (D : List Int) : Prop := ∀ (j : Nat) (x : Int), D[j]? = some x → ∃ gb off, a = some ⟨gb, off, none⟩ ∧ (P gb ∧ ∃ cs fr, w.heap[gb]? = some (.cells cs 3 fr)) ∧ w.cell? ⟨gb, off + j, none⟩ = some (.int .i64 x)
theorem PRow.irow {w : World} {P : Nat → Prop} {a : Option Addr} {D : List Int} (h : PRow w P a D) : IRow w a D := by
 intro j x hj
 obtain ⟨gb, off, e, _, hc⟩ := h j x hj
 exact ⟨gb, off, e, hc⟩
theorem cell_same {w w' : World} {p : Addr} {v : Value} (h : w.cell? p = some v) (hb : w'.heap[p.block]? = w.heap[p.block]?) : w'.cell? p = some v := by
 unfold World.cell? at *
 rw [hb]
 exact h
theorem PRow.keep {w w' : World} {P : Nat → Prop} {a : Option Addr} {D : List Int} (h : PRow w P a D) (hb : ∀ k, P k → k < w.heap.size → w'.heap[k]? = w.heap[k]?) : PRow w' P a D := by
 intro j x hj
 obtain ⟨gb, off, e, ⟨hp, cs, fr, hh⟩, hc⟩ := h j x hj
 have hs := hb gb hp (cell_lt hc)
 exact ⟨gb, off, e, ⟨hp, cs, fr, hs.trans hh⟩, cell_same hc hs⟩
theorem PRow.mono {w : World} {P Q : Nat → Prop} {a : Option Addr} {D : List Int} (h : PRow w P a D) (hq : ∀ k, P k → k < w.heap.size → Q k) : PRow w Q a D := by
 intro j x hj
 obtain ⟨gb, off, e, ⟨hp, hh⟩, hc⟩ := h j x hj
 exact ⟨gb, off, e, ⟨hq gb hp (cell_lt hc), hh⟩, hc⟩
theorem own_prow {w : World} {base : Nat} {v : Value} {D : List Int} (h : w.ownsRow base 3 1 v D.length (ivs D)) : ∃ a cap, v = .slice a D.length cap ∧ D.length ≤ cap ∧ PRow w (fun k => base ≤ k) a D := by
 rcases h.2 with ⟨rfl, e2⟩ | ⟨g, cap, cur, rfl, hg, hh, q, _, _, ht⟩
 ·have : D = [] := List.eq_nil_of_length_eq_zero e2
  subst this
  exact ⟨none, 0, rfl, by simp, fun j x hx => by simp at hx⟩
 ·refine ⟨_, cap, rfl, q, fun j x hx => ⟨g, 0, rfl, ⟨hg, cur, (0, 0), hh⟩, ?_⟩⟩
  have hj : j < D.length := (List.getElem?_eq_some_iff.1 hx).1
  have hq : (ivs D)[j]? = some (.int .i64 x) := by simp [ivs, hx]
  rw [Nat.zero_add, cell_of_heap hh]
  rw [← ht, Nat.mul_one, List.getElem?_take_of_lt hj] at hq
  simpa using hq
def PUp (w : World) (P : Nat → Prop) (a : Option Addr) (U : List (Int × Int)) : Prop := ∀ (j : Nat) (e x : Int), U[j]? = some (e, x) → ∃ gb off, a = some ⟨gb, off, none⟩ ∧ P gb ∧ w.cell? ⟨gb, off + j * 2, none⟩ = some (.int .i64 e) ∧ w.cell? ⟨gb, off + j * 2 + 1, none⟩ = some (.int .u64 x)
theorem PUp.keep {w w' : World} {P : Nat → Prop} {a : Option Addr} {D : List (Int × Int)} (h : PUp w P a D) (hb : ∀ k, P k → k < w.heap.size → w'.heap[k]? = w.heap[k]?) : PUp w' P a D := by
 intro j e x hj
 obtain ⟨gb, off, ea, hp, hc, hd⟩ := h j e x hj
 have := hb gb hp (cell_lt hc)
 exact ⟨gb, off, ea, hp, cell_same hc this, cell_same hd this⟩
def Els (B c gv k : Nat) : Prop := B ≤ k ∧ k ≠ c ∧ k ≠ gv
structure RfIs (w : World) (B c gv : Nat) (al : Option Addr) (cl cv : Nat) (au : Option Addr) (cu : Nat) (L V : List Int) (U : List (Int × Int)) : Prop where
 head : w.heap[c]? = some (.cells #[.slice al L.length cl, .slice (some ⟨gv, 0, none⟩) V.length cv, .slice au U.length cu] 118)
 lrow : PRow w (Els B c gv) al L
 lcap : L.length ≤ cl
 urow : PUp w (Els B c gv) au U
 vec : ∃ row : Array Value, w.heap[gv]? = some (.cells row 3) ∧ ∀ (j : Nat) (x : Int), V[j]? = some x → row[j]? = some (.int .i64 x)
 ne : c ≠ gv
 bc : B ≤ c
 bg : B ≤ gv
 pos : 1 ≤ V.length
 len : V.length ≤ 64
section
variable {w w' : World} {B c gv : Nat} {al : Option Addr} {cl cv : Nat} {au : Option Addr} {cu : Nat} {L V : List Int} {U : List (Int × Int)}
theorem RfIs.ltc (h : RfIs w B c gv al cl cv au cu L V U) : c < w.heap.size := lt_of_heap h.head
theorem RfIs.ltg (h : RfIs w B c gv al cl cv au cu L V U) : gv < w.heap.size := by
 obtain ⟨row, hr, _⟩ := h.vec
 exact lt_of_heap hr
theorem RfIs.keep (h : RfIs w B c gv al cl cv au cu L V U) (hb : ∀ k, B ≤ k → k < w.heap.size → w'.heap[k]? = w.heap[k]?) : RfIs w' B c gv al cl cv au cu L V U := by
 obtain ⟨row, hr, h1⟩ := h.vec
 exact ⟨(hb c h.bc h.ltc).trans h.head, h.lrow.keep (fun k hk hl => hb k hk.1 hl), h.lcap, h.urow.keep (fun k hk hl => hb k hk.1 hl), ⟨row, (hb gv h.bg h.ltg).trans hr, h1⟩, h.ne, h.bc, h.bg, h.pos, h.len⟩
theorem RfIs.keepT (h : RfIs w B c gv al cl cv au cu L V []) (hk : ∀ (k : Nat) (cs : Array Value) (t : TypeId) (fr : Nat × Nat), w.heap[k]? = some (.cells cs t fr) → (t = 118 ∨ t = 3) → w'.heap[k]? = some (.cells cs t fr)) : RfIs w' B c gv al cl cv au cu L V [] := by
 obtain ⟨row, hr, h1⟩ := h.vec
 refine ⟨hk _ _ _ _ h.head (Or.inl rfl), fun j x hj => ?_, h.lcap, fun j e x hx => by simp at hx, ⟨row, hk _ _ _ _ hr (Or.inr rfl), h1⟩, h.ne, h.bc, h.bg, h.pos, h.len⟩
 obtain ⟨gb, off, e, ⟨hp, cs, fr, hh⟩, hc⟩ := h.lrow j x hj
 have h2 := hk _ _ _ _ hh (Or.inr rfl)
 refine ⟨gb, off, e, ⟨hp, cs, fr, h2⟩, cell_same hc (h2.trans hh.symm)⟩
theorem RfIs.below (h : RfIs w B c gv al cl cv au cu L V U) (hb : Below w.heap.size w w') : RfIs w' B c gv al cl cv au cu L V U := h.keep (fun k _ hl => hb.block k hl)
theorem RfIs.cells (h : RfIs w B c gv al cl cv au cu L V U) : w.cell? ⟨c, 0, none⟩ = some (.slice al L.length cl) ∧ w.cell? ⟨c, 1, none⟩ = some (.slice (some ⟨gv, 0, none⟩) V.length cv) ∧ w.cell? ⟨c, 2, none⟩ = some (.slice au U.length cu) := by
 refine ⟨?_, ?_, ?_⟩ <;> (rw [cell_of_heap h.head]; rfl)
theorem RfIs.freec (h : RfIs w B c gv al cl cv au cu L V U) (o : Nat) : w.frozen? ⟨c, o, none⟩ = false := frozen_of_heap h.head
theorem els_c {k : Nat} (h : Els B c gv k) (w : World) (o : Nat) (v : Value) : (w.setCell ⟨c, o, none⟩ v).heap[k]? = w.heap[k]? := Below.heap_setCell _ _ _ _ h.2.1
theorem RfIs.setL (h : RfIs w B c gv al cl cv au cu L V U) {base : Nat} {v : Value} {D : List Int} (ho : w.ownsRow base 3 1 v D.length (ivs D)) (h1 : c < base) (h2 : gv < base) (h3 : B ≤ base) :
  ∃ al' cl', RfIs (w.setCell ⟨c, 0, none⟩ v) B c gv al' cl' cv au cu D V U := by
 obtain ⟨a, cap, rfl, hcap, hrow⟩ := own_prow ho
 obtain ⟨row, hr, hv⟩ := h.vec
 refine ⟨a, cap, ?_, (hrow.mono (Q := Els B c gv) (fun k hk _ => ⟨by omega, by omega, by omega⟩)).keep (fun k hk _ => els_c hk w _ _), hcap, h.urow.keep (fun k hk _ => els_c hk w _ _), ⟨row, ?_, hv⟩, h.ne, h.bc, h.bg, h.pos, h.len⟩
 ·rw [setCell_eq_setRow w c _ _ _ _ _ h.head, setRow_heap w c _ _ _ _ h.head]
  rfl
 ·rw [Below.heap_setCell _ _ _ _ (Ne.symm h.ne)]
  exact hr
end
abbrev Its (c gv : Nat) (k : Nat) : Prop := k = c ∨ k = gv
theorem its_c (c gv o : Nat) (w : World) (v : Value) : UpdP (Its c gv) w (w.setCell ⟨c, o, none⟩ v) := (Upd.setCell c o w v).p _ (Or.inl rfl)
def RfAt (w : World) (B c gv : Nat) (L V : List Int) (U : List (Int × Int)) : Prop := ∃ al cl cv au cu, RfIs w B c gv al cl cv au cu L V U
theorem rnew_no (n : Int) (w : World) (h : n < 1 ∨ 64 < n) :
  Calls Tryz.prog 58 #[.int .i64 n] w fun e w' => e = .returned (.pointer none) ∧ w' = w := by
 rcases h with h | h
 ·go_enter Tryz.func58, Tryz.ntmps58
  go_wp2
  go_ret
  exact ⟨rfl, rfl⟩
 ·have h' : ¬ n < 1 := by omega
  go_enter Tryz.func58, Tryz.ntmps58
  go_wp2
  go_ret
  exact ⟨rfl, rfl⟩
theorem rep_snoc (k : Nat) : ivs (List.replicate (k + 1) (-1)) = ivs (List.replicate k (-1)) ++ [.int .i64 (-1)] := by
 rw [List.replicate_succ']
 simp [ivs]
set_option maxRecDepth 100000 in
set_option maxHeartbeats 1000000 in
theorem rnew_yes (n : Nat) (w : World) (h : 1 ≤ n) (h2 : n ≤ 64) :
  Calls Tryz.prog 58 #[.int .i64 n] w fun e w' => e = .returned (.pointer (some ⟨w.heap.size, 0, none⟩)) ∧ (∃ gv, RfAt w' w.heap.size w.heap.size gv [] (List.replicate n (-1)) []) ∧ Below w.heap.size w w' := by
 obtain ⟨i0, hi0, hzz⟩ := Option.map_eq_some_iff.1 intInfo
 simp only [Prod.mk.injEq] at hzz
 obtain ⟨hz0, hz1, hz2⟩ := hzz
 obtain ⟨W, hW⟩ : ∃ W, W = w.alloc (.cells #[.slice none 0 0, .slice none 0 0, .slice none 0 0] 118) := ⟨_, rfl⟩
 have HB : Hid (Below w.heap.size w W) := by rw [hW]; exact below_alloc _ _
 have HI : Hid (W.heap[w.heap.size]? = some (.cells #[.slice none 0 0, .slice none 0 0, .slice none 0 0] 118)) := by show _ = _; rw [hW]; exact heap_alloc_new _ _
 have HW : Hid _ := hW
 clear hW
 go_enter Tryz.func58, Tryz.ntmps58
 go_wp2
 rw [← HW.out]
 clear HW
 go_loopw [4] (fun s wr => ∃ (k : Nat) (v : Value), k ≤ n ∧ s = .int .i64 k ∧ Hid (wr.heap[w.heap.size]? = some (.cells #[.slice none 0 0, v, .slice none 0 0] 118)) ∧ wr.ownsRow (w.heap.size + 1) 3 1 v k (ivs (List.replicate k (-1))) ∧ Below w.heap.size w wr) (fun s _ => n - (intOf s).toNat)
 case atStart => exact ⟨0, _, by omega, rfl, HI, World.ownsRow_nil _ _ _ _, HB.out⟩
 case round =>
  clear HI HB
  obtain ⟨k, v, hk, rfl, HI, hown, hB⟩ := hrel
  have hlt0 := lt_of_heap HI.out
  by_cases hlt : k < n
  ·have c1 : wr.cell? ⟨w.heap.size, 1, none⟩ = some v := by rw [cell_of_heap HI.out]; rfl
   have HO : Hid _ := hown
   have HOA : Hid (∀ o, (wr.alloc o).ownsRow (w.heap.size + 1) 3 1 v k (ivs (List.replicate k (-1)))) := fun o => hown.alloc o
   have HB : Hid _ := hB
   have hki : (k : Int) < (n : Int) := by omega
   clear hown hB
   go_wp2_with (at_builtin; refine wpList_append_lies _ rfl _ _ _ rfl (w.heap.size + 1) 3 i0 _ 1 8 Tryz.underlying46 hi0 hz0 hz1 hz2 rfl (by omega) v k (ivs (List.replicate k (-1))) rfl (HOA.out _) ⟨wr.heap.size, 0, none⟩ 1 1 [.int .i64 (-1)] rfl rfl (World.news_of_block (cs := #[.int .i64 (-1)]) (t := 3) (fr := (0, 0)) (heap_alloc_new _ _)) (by simp [Value.oneCell']) (by omega) (by unfold maxLen; omega) (by omega) (by simp; omega) _ rfl ?_; intro gg capx w2 hown2 hgrow hat hlt2; have B2 : Below (w.heap.size + 1) wr w2 := ((Below.refl _ wr).alloc (by omega) _).trans (below_grown hgrow (by simp; omega) (ownsRow_low HO.out)); have I2 := (B2.block w.heap.size (by omega)).trans HI.out; have x1 : w2.cell? ⟨w.heap.size, 1, none⟩ = some v := by { rw [cell_of_heap I2]; rfl }; have x2 : w2.frozen? ⟨w.heap.size, 1, none⟩ = false := frozen_of_heap I2)
   go_roundw
   case rel =>
    refine ⟨k + 1, .slice (some ⟨gg, 0, none⟩) (k + 1) capx, by omega, by go_num, ?_, ?_, ?_⟩
    ·show _ = _
     rw [setCell_eq_setRow w2 w.heap.size _ _ _ _ _ I2, setRow_heap w2 w.heap.size _ _ _ _ I2]
     rfl
    ·rw [rep_snoc]
     refine ownsRow_at hown2 (fun q hq => ?_)
     have := ownsRow_low hown2 q hq
     exact Below.heap_setCell _ _ _ _ (by show q ≠ w.heap.size; omega)
    ·exact (HB.out.trans (B2.mono (by omega))).trans ((Upd.setCell w.heap.size 1 w2 _).below (Nat.le_refl _) (by have := B2.size; omega))
   case measure => simp [intOf]; omega
  ·obtain rfl : k = n := by omega
   have HO : Hid _ := hown
   have HB : Hid _ := hB
   clear hown hB
   go_wp2
   go_ret
   refine ⟨rfl, ?_, HB.out⟩
   have e : (List.replicate k (-1 : Int)).length = k := by simp
   rcases HO.out.2 with ⟨e1, e2⟩ | ⟨gg, cap, cur, rfl, hg, hh, q, _, _, ht⟩
   ·omega
   ·refine ⟨gg, none, 0, cap, none, 0, ?_, fun j x hx => by simp at hx, by simp, fun j e x hx => by simp at hx, ⟨cur, hh, fun j x hx => ?_⟩, by omega, Nat.le_refl _, by omega, by rw [e]; exact h, by rw [e]; exact h2⟩
    ·rw [e]
     exact HI.out
    ·have hj : j < k := by rw [← e]; exact (List.getElem?_eq_some_iff.1 hx).1
     have hq : (ivs (List.replicate k (-1)))[j]? = some (.int .i64 x) := by simp only [ivs, List.getElem?_map, hx]; rfl
     rw [← ht, Nat.mul_one, List.getElem?_take_of_lt hj] at hq
     simpa using hq
theorem env_at (n : Int) (w : World) :
  Calls Tryz.prog 59 #[.int .i64 n] w fun e w' => e = .returned (.bool (isE n)) ∧ w' = w := by
 go_enter Tryz.func59, Tryz.ntmps59
 go_wp2
 all_goals
  go_ret
  refine ⟨ret_bool ?_, rfl⟩
  simp [isE]
  try omega
section
variable {B c gv : Nat} {al : Option Addr} {cl cv : Nat} {au : Option Addr} {cu : Nat} {L V : List Int} {U : List (Int × Int)}
theorem ris_at (n : Int) (w : World) (h : RfIs w B c gv al cl cv au cu L V U) (hl : L.length ≤ 100) :
  Calls Tryz.prog 31 #[.pointer (some ⟨c, 0, none⟩), .int .i64 n] w fun e w' => e = .returned (.bool (L.contains n)) ∧ w' = w := by
 obtain ⟨c0, _, _⟩ := h.cells
 have hh := rin_at L al cl n w h.lrow.irow (by omega)
 clear h
 generalize L.contains n = X at *
 go_enter Tryz.func31, Tryz.ntmps31
 go_wp2_with (go_at_call 80; refine hh.mono ?_; rintro e w1 ⟨rfl, hw⟩; rw [hw]; clear hw w1)
 go_ret
 exact ⟨rfl, rfl⟩
def rcreateR (L : List Int) (n : Int) : Int := if isE n then (if L.contains n then 105 else 0) else 101
def rcreateL (L : List Int) (n : Int) : List Int := if isE n && !L.contains n then insI n L else L
set_option maxRecDepth 100000 in
theorem rcreate_at (n : Int) (w : World) (h : RfIs w B c gv al cl cv au cu L V U) (hl : L.length ≤ 100) :
  Calls Tryz.prog 23 #[.pointer (some ⟨c, 0, none⟩), .int .i64 n] w fun e w' => e = .returned (.int .i64 (rcreateR L n)) ∧ RfAt w' B c gv (rcreateL L n) V U ∧ UpdP (Its c gv) w w' := by
 have HR : Hid _ := h
 have hE := env_at n w
 have hI := ris_at n w h hl
 have hP := rputi_at L al cl n w h.lrow.irow (by omega) h.lcap
 obtain ⟨c0, _, _⟩ := h.cells
 cases hn : isE n with
 | false =>
  have H1 : Hid (rcreateR L n = 101) := by show _ = _; simp [rcreateR, hn]
  have H2 : Hid (rcreateL L n = L) := by show _ = _; simp [rcreateL, hn]
  rw [hn] at hE
  clear h hI hP hn
  go_enter Tryz.func23, Tryz.ntmps23
  go_wp2_with (go_at_call 59; refine hE.mono ?_; rintro e w1 ⟨rfl, hw⟩; rw [hw]; clear hw w1)
  go_ret
  exact ⟨by rw [H1.out]; rfl, by rw [H2.out]; exact ⟨_, _, _, _, _, HR.out⟩, UpdP.refl _ _⟩
 | true =>
  rw [hn] at hE
  cases hc : L.contains n with
  | true =>
   have H1 : Hid (rcreateR L n = 105) := by show _ = _; unfold rcreateR; rw [hn, hc]; rfl
   have H2 : Hid (rcreateL L n = L) := by show _ = _; unfold rcreateL; rw [hn, hc]; rfl
   rw [hc] at hI
   clear h hP hn hc
   go_enter Tryz.func23, Tryz.ntmps23
   go_wp2_with (first | (go_at_call 59; refine hE.mono ?_; rintro e w1 ⟨rfl, hw⟩; rw [hw]; clear hw w1) | (go_at_call 31; refine hI.mono ?_; rintro e w1 ⟨rfl, hw⟩; rw [hw]; clear hw w1))
   go_ret
   exact ⟨by rw [H1.out]; rfl, by rw [H2.out]; exact ⟨_, _, _, _, _, HR.out⟩, UpdP.refl _ _⟩
  | false =>
   have H1 : Hid (rcreateR L n = 0) := by show _ = _; unfold rcreateR; rw [hn, hc]; rfl
   have H2 : Hid (rcreateL L n = insI n L) := by show _ = _; unfold rcreateL; rw [hn, hc]; rfl
   rw [hc] at hI
   have hlc := h.ltc
   have hlg := h.ltg
   have hbc := h.bc
   clear h hn hc
   go_enter Tryz.func23, Tryz.ntmps23
   go_wp2_with fail
   refine hE.mono ?_
   rintro e w1 ⟨rfl, hw⟩
   rw [hw]
   clear hw w1 hE
   go_wp2_with fail
   refine hI.mono ?_
   rintro e w1 ⟨rfl, hw⟩
   rw [hw]
   clear hw w1 hI
   go_wp2_with fail
   refine hP.mono ?_
   rintro e w1 ⟨v, rfl, hown, hb⟩
   obtain ⟨av, capv, rfl, -, -⟩ := own_prow hown
   have hR1 := RfIs.below HR.out hb
   obtain ⟨d0, _, _⟩ := hR1.cells
   have f0 := hR1.freec 0
   obtain ⟨al', cl', hR2⟩ := hR1.setL hown hlc hlg (by omega)
   have HR2 : Hid _ := hR2
   have HU : Hid (UpdP (Its c gv) w (w1.setCell ⟨c, 0, none⟩ (.slice av (insI n L).length capv))) := (UpdP.of_below hb).trans (its_c c gv 0 w1 _)
   clear hR1 hown hb hR2 hP c0
   go_wp2
   go_ret
   exact ⟨by rw [H1.out]; rfl, by rw [H2.out]; exact ⟨_, _, _, _, _, HR2.out⟩, HU.out⟩
end
end En
end Go.Proofs.YtbhpafgoofkkmaaGreatDoor
