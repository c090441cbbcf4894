import Derived.Test.YtbhpafgoofkkmaaGreatDoorRxHI
set_option linter.all false
namespace Go.Proofs.YtbhpafgoofkkmaaGreatDoor
open Go.RowKit
theorem RkX.keepF {w w' : World} {X : Nat} {Q : Xd.Rq} {n m : Nat} {vs : List Int} (h : Xd.RkX w X Q n m vs Xd.L0 [] 0) (hs : w.heap.size ≤ w'.heap.size) (hst : ∀ k, Xd.RF X Q k → w'.heap[k]? = w.heap[k]?)
  (hrow : ∀ (k : Nat) (cs : Array Value) (fr : Nat × Nat), w.heap[k]? = some (.cells cs 42 fr) → Q.dx < k → w'.heap[k]? = some (.cells cs 42 fr)) : Xd.RkX w' X Q n m vs Xd.L0 [] 0 := by
 obtain ⟨iv, nv, hx, hi, hn⟩ := h.head
 obtain ⟨gt, pt, hd, hp⟩ := h.disk
 obtain ⟨sv, hc⟩ := h.caps
 obtain ⟨row, hr, hrs, hrc⟩ := h.wrow
 obtain ⟨cur, hh, ht⟩ := hd.tab
 have z := Xd.in_zero n
 rw [z.1] at hi
 rw [z.2] at hn
 refine ⟨⟨iv, nv, (hst _ (Or.inl rfl)).trans hx, ?_, ?_⟩, ⟨gt, pt, ⟨(hst _ (Or.inr (Or.inl rfl))).trans hd.head, ⟨cur, (hst _ (Or.inr (Or.inr (Or.inl rfl)))).trans hh, fun i hi => ?_⟩, hd.len, hd.low⟩, hp⟩, ⟨row, (hst _ (Or.inr (Or.inr (Or.inr (Or.inr rfl))))).trans hr, hrs, fun i hi => ?_⟩,
   ⟨sv, ⟨(hst _ (Or.inr (Or.inr (Or.inr (Or.inl rfl))))).trans hc.head, ?_, hc.nil⟩⟩, h.ne, Nat.le_trans h.MS hs, h.linv⟩
 ·rw [z.1]
  obtain ⟨a, cap, e, q, _⟩ := hi
  exact ⟨a, cap, e, q, fun hne => absurd rfl hne⟩
 ·rw [z.2]
  obtain ⟨a, cap, e, q, _⟩ := hn
  exact ⟨a, cap, e, q, fun hne => absurd rfl hne⟩
 ·obtain ⟨r, c, rw', q1, q2, q3, q4⟩ := ht i hi
  exact ⟨r, c, rw', q1, hrow _ _ _ q2 q3, q3, q4⟩
 ·obtain ⟨v, e1, e2⟩ := hrc i hi
  exact ⟨v, e1, fun ws hw => by cases hw⟩
 ·have hsv := hc.nil rfl
  rw [hsv]
  exact World.ownsRow_nil _ _ _ _
theorem RkAt.keepF {w w' : World} {X : Nat} {Q : Ex.RLay} {n : Nat} {vs : List Int} {F : Ex.Pages} (h : Ex.RkAt w X Q n vs [] 0 F) (hs : w.heap.size ≤ w'.heap.size) (hst : ∀ k, MPart X Q n k → w'.heap[k]? = w.heap[k]?) : Ex.RkAt w' X Q n vs [] 0 F := by
 obtain ⟨sv, hc⟩ := h.caps
 refine ⟨⟨h.tbl.1.keep (hst _ (Or.inl rfl)), h.tbl.2⟩, h.mem.keep (hst _ (Or.inr (Or.inr (Or.inl rfl)))) (hst _ (Or.inr (Or.inr (Or.inr (Or.inl rfl))))) (fun i hi => hst _ (Or.inr (Or.inr (Or.inr (Or.inr ⟨i, hi, rfl⟩))))),
   ⟨sv, ⟨(hst _ (Or.inr (Or.inl rfl))).trans hc.head, ?_, hc.nil⟩⟩, h.lo1, h.lo2, h.lo3, h.cX, h.XM, Nat.le_trans h.MS hs⟩
 rw [hc.nil rfl]
 exact World.ownsRow_nil _ _ _ _
structure RxNew (w : World) (X a b c gv B0 B1 : Nat) (QM : Ex.RLay) (QD : Xd.Rq) (L V : List Int) : Prop where
 head : w.heap[X]? = some (.cells #[ptr a, ptr b, ptr c, .slice none 0 0] 65)
 mem : Ex.RkAt w a QM 8 (List.replicate 256 0) [] 0 (fun _ _ => none)
 disk : Xd.RkX w b QD 16 0 (List.replicate 512 0) Xd.L0 [] 0
 env : En.RfAt w c c gv L V []
 low : Ex.RLow QM 8 B0
 m1 : ∀ q, Ex.RFoot a QM 8 q → q < B1
 d1 : ∀ q, Xd.RF b QD q → B1 ≤ q
 d2 : B1 ≤ QD.dx
 c1 : B0 ≤ c
 g1 : B0 ≤ gv
 x1 : c ≤ X
 b1 : B0 ≤ B1
section
variable {w w' : World} {X a b c gv B0 B1 : Nat} {QM : Ex.RLay} {QD : Xd.Rq} {L V : List Int}
theorem RxNew.part (h : RxNew w X a b c gv B0 B1 QM QD L V) {q : Nat} (hq : MPart a QM 8 q) : B0 ≤ q := by
 have h1 := h.low.l1
 have h2 := h.low.l2
 have h3 := h.mem.lo1
 have h4 := h.mem.cX
 rcases hq with e | e | e | e | ⟨i, hi, e⟩
 ·omega
 ·omega
 ·omega
 ·omega
 ·have := h.low.l3 i hi
  omega
theorem RxNew.keepE (h : RxNew w X a b c gv B0 B1 QM QD L V) {eb eg : Nat} (hu : UpdP (En.Mine eb eg) w w') (h1 : eb < B0) (h2 : eg < B0) : RxNew w' X a b c gv B0 B1 QM QD L V := by
 have hk : ∀ k, B0 ≤ k → k < w.heap.size → w'.heap[k]? = w.heap[k]? := fun k hb hl => hu.block k hl (by rintro (e | e) <;> omega)
 have hc := h.c1
 have hx := h.x1
 have hb := h.b1
 have hd := h.d2
 obtain ⟨al, cl, cv, au, cu, hr⟩ := h.env
 refine ⟨(hk X (by omega) (lt_of_heap h.head)).trans h.head, RkAt.keepF h.mem hu.size (fun q hq => ?_), RkX.keepF h.disk hu.size (fun q hq => hk q (by have := h.d1 q hq; omega) (h.disk.lows q hq)) (fun q cs fr e hq => (hk q (by omega) (lt_of_heap e)).trans e), ⟨al, cl, cv, au, cu, hr.keep (fun k hb' hl => hk k (by omega) hl)⟩, h.low, h.m1, h.d1, h.d2, h.c1, h.g1, h.x1, h.b1⟩
 obtain ⟨cs, t, fr, e, _⟩ := RkAt.ty h.mem hq
 exact hk q (h.part hq) (lt_of_heap e)
theorem RxNew.keepI (h : RxNew w X a b c gv B0 B1 QM QD L V) {L' : List Int} (hE : En.RfAt w' c c gv L' V []) (hu : UpdP (En.Its c gv) w w') : RxNew w' X a b c gv B0 B1 QM QD L' V := by
 obtain ⟨al, cl, cv, au, cu, hr⟩ := h.env
 obtain ⟨row, hg, _⟩ := hr.vec
 have hno : ∀ {q : Nat} {cs : Array Value} {t : TypeId} {fr : Nat × Nat}, w.heap[q]? = some (.cells cs t fr) → t ≠ 118 → t ≠ 3 → w'.heap[q]? = some (.cells cs t fr) := by
  intro q cs t fr e h1 h2
  refine (hu.block q (lt_of_heap e) ?_).trans e
  rintro (q1 | q1)
  ·rw [q1] at e; exact heap_apart e hr.head h1 rfl
  ·rw [q1] at e; exact heap_apart e hg h2 rfl
 refine ⟨hno h.head (by decide) (by decide), RkAt.keepF h.mem hu.size (fun q hq => ?_), RkX.keepF h.disk hu.size (fun q hq => ?_) (fun q cs fr e hq => hno e (by decide) (by decide)), hE, h.low, h.m1, h.d1, h.d2, h.c1, h.g1, h.x1, h.b1⟩
 ·obtain ⟨cs, t, fr, e, o⟩ := RkAt.ty h.mem hq
  rw [hno e (by rcases o with rfl | rfl | rfl | rfl | rfl <;> decide) (by rcases o with rfl | rfl | rfl | rfl | rfl <;> decide), e]
 ·obtain ⟨cs, t, fr, e, o⟩ := RkX.ty h.disk hq
  rw [hno e (by rcases o with rfl | rfl | rfl | rfl <;> decide) (by rcases o with rfl | rfl | rfl | rfl <;> decide), e]
end
set_option maxRecDepth 100000 in
set_option maxHeartbeats 2000000 in
theorem r13_newF (w : World) :
  Calls Tryz.prog 22 #[.int .i64 8, .int .i64 16] w fun x w' => ∃ X a b c gv B1 QM QD, x = .returned (ptr X) ∧ RxNew w' X a b c gv w.heap.size B1 QM QD [] (List.replicate 16 (-1)) ∧ Below w.heap.size w w' := by
 have hA := Ex.rknew_at 8 w (by omega) (by omega)
 go_enter Tryz.func22, Tryz.ntmps22
 go_wp2_with fail
 refine hA.mono ?_
 rintro x w1 ⟨a, QM, rfl, hM, hb1, hlow⟩
 have hB := Xd.rxnew_at 16 w1 (by omega) (by omega)
 have HM : Hid (Ex.RkAt w1 a QM 8 (List.replicate 256 0) [] 0 (fun _ _ => none)) := hM
 have HB1 : Hid _ := hb1
 have HLow : Hid (Ex.RLow QM 8 w.heap.size) := hlow
 clear hA hM hb1 hlow
 go_wp2_with fail
 refine hB.mono ?_
 rintro x w2 ⟨b, QD, rfl, hD, hb2, hF⟩
 have HD : Hid (Xd.RkX w2 b QD 16 0 (List.replicate 512 0) Xd.L0 [] 0) := hD
 have HB2 : Hid _ := hb2
 have HF : Hid (∀ q, Xd.RF b QD q → w1.heap.size ≤ q) := hF
 have q1 := rk_ne a
 have q2 := rx_ne b
 have hE := En.rnew_yes 16 w2 (by omega) (by omega)
 clear hB hD hb2 hF
 go_wp2_with fail
 refine hE.mono ?_
 rintro x w3 ⟨rfl, ⟨gv, hR⟩, hb3⟩
 obtain ⟨W, hW⟩ : ∃ W, W = w3.alloc (.cells #[ptr a, ptr b, ptr w2.heap.size, .slice none 0 0] 65) := ⟨_, rfl⟩
 have hbW : Below w3.heap.size w3 W := by rw [hW]; exact Ca.below_alloc _ _
 have hX : W.heap[w3.heap.size]? = some (.cells #[ptr a, ptr b, ptr w2.heap.size, .slice none 0 0] 65) := by rw [hW]; exact heap_alloc_new _ _
 have hb3W : Below w2.heap.size w2 W := hb3.trans (hbW.mono hb3.size)
 have s1 := HB1.out.size
 have s2 := HB2.out.size
 have HN : Hid (RxNew W w3.heap.size a b w2.heap.size gv w.heap.size w1.heap.size QM QD [] (List.replicate 16 (-1))) := by
  obtain ⟨al, cl, cv, au, cu, hr⟩ := hR
  have s3 := hr.bg
  refine ⟨hX, (HM.out.below HB2.out).below hb3W, HD.out.below hb3W, ⟨al, cl, cv, au, cu, hr.below hbW⟩, HLow.out, fun q hq => ?_, HF.out, HF.out _ (Or.inr (Or.inl rfl)), by omega, by omega, hb3.size, s1⟩
  obtain ⟨cs, t, fr, e, _⟩ := RkAt.fty HM.out hq
  exact lt_of_heap e
 have HBW : Hid (Below w.heap.size w W) := (HB1.out.trans (HB2.out.mono s1)).trans (hb3W.mono (by omega))
 clear hE hR hb3 hbW hX hb3W s1 s2 HB1 HB2
 go_wp2
 rw [← hW]
 clear hW
 go_ret
 exact ⟨_, _, _, _, _, _, _, _, rfl, HN.out, HBW.out⟩
theorem wE_is (e : Int) : (wL 4).contains e = En.isB (wE 4) e := by
 have h1 : wL 4 = [1, 2, 3] := by kernel_rfl
 rw [h1]
 by_cases he : Ca.isE e = true
 ·obtain ⟨m, rfl, hm⟩ := Ex.isE_nat he
  have : m = 0 ∨ m = 1 ∨ m = 2 ∨ m = 3 ∨ m = 4 ∨ m = 5 ∨ m = 6 ∨ m = 7 ∨ m = 8 ∨ m = 9 ∨ m = 10 ∨ m = 11 := by omega
  rcases this with rfl | rfl | rfl | rfl | rfl | rfl | rfl | rfl | rfl | rfl | rfl | rfl <;> rfl
 ·have h2 : ¬ (e = 1 ∨ e = 2 ∨ e = 3) := by
   intro q
   apply he
   rcases q with rfl | rfl | rfl <;> rfl
  have h3 : ([1, 2, 3] : List Int).contains e = false := by
   simp
   omega
  rw [h3]
  symm
  unfold En.isB
  have he2 : En.isE e = false := by
   have : En.isE e = Ca.isE e := rfl
   rw [this]
   simpa using he
  rw [he2]
  rfl
theorem RxNew.refX {w : World} {X a b c gv B0 B1 : Nat} {QM : Ex.RLay} {QD : Xd.Rq} {V : List Int} (h : RxNew w X a b c gv B0 B1 QM QD (wL 4) V) : RefX w X ⟨⟨w.heap.size, a, b, c⟩, QM, QD, B1, c, gv⟩ 0 (wS 4) := by
 obtain ⟨al, cl, cv, au, cu, hr⟩ := h.env
 refine ⟨⟨[], 0, h.mem, Ca.Rel.zero, Int.le_refl _, Nat.le_refl _, Int.le_refl _⟩, ⟨[], 0, 0, h.disk, Ca.Rel.zero, Int.le_refl _, Nat.le_refl _, Int.le_refl _⟩, ⟨.slice none 0 0, [], ⟨h.head, World.ownsRow_nil _ _ _ _, fun m hm => (by cases hm), fun m hm => (by cases hm)⟩, Ip.Rel.zero, Nat.le_refl _⟩,
   ⟨wL 4, V, al, cl, cv, au, cu, hr, wL_len 4 (by omega), wE_is⟩, h.m1, h.d1, h.d2, ?_, Nat.le_refl _⟩
 have := h.d1 _ (Or.inr (Or.inl rfl))
 have h2 := h.disk.lows _ (Or.inr (Or.inl rfl))
 have h3 := h.d2
 show B1 ≤ w.heap.size
 omega
set_option maxRecDepth 100000 in
set_option maxHeartbeats 2000000 in
theorem worldsF_at (w : World) :
  Calls Tryz.prog 8 #[] w fun x w' => ∃ K L X Y, x = .returned (.tuple #[ptr K, ptr X, .bool true]) ∧ ExoAt w' K L (wS 4) ∧ RefX w' X Y 0 (wS 4) ∧ Below w.heap.size w w' ∧ XLow L w.heap.size ∧ Y.b1 ≤ L.D.M ∧ ∀ q, RP X Y 8 q → w.heap.size ≤ q := by
 have hN := xonew_at 8 16 w (by omega) (by omega) (by omega) (by omega)
 go_enter Tryz.func8, Tryz.ntmps8
 go_wp2_with fail
 refine hN.mono ?_
 rintro x w1 ⟨K, L, rfl, hE1, hb1, hK1, hL1⟩
 have hR := r13_newF w1
 have HE1 : Hid (ExoAt w1 K L (wS 1)) := hE1
 have HB1 : Hid _ := hb1
 have HL : Hid (XLow L w.heap.size) := hL1
 have HEV : Hid (L.eb < w1.heap.size ∧ L.eg < w1.heap.size) := by
  obtain ⟨row, hr, _⟩ := hE1.env.head
  exact ⟨lt_of_heap hr, lt_of_heap hE1.env.vec⟩
 clear hN hE1 hb1 hK1 hL1
 go_wp2_with fail
 refine hR.mono ?_
 rintro x w2 ⟨X, a, b, c, gv, B1, QM, QD, rfl, hX, hb2⟩
 have q1 := exo_neB K
 have HX : Hid _ := hX
 have HB2s : Hid (w.heap.size ≤ w1.heap.size) := HB1.out.size
 have HE2 : Hid (ExoAt w2 K L (wS 1)) := HE1.out.below hb2
 have HB2 : Hid (Below w.heap.size w w2) := HB1.out.trans (hb2.mono HB1.out.size)
 clear hR hX hb2 HE1 HB1
 go_wp2_with fail
 go_loopw [5] (fun s wr => ∃ (k : Nat), 1 ≤ k ∧ k ≤ 4 ∧ s = .int .i64 k ∧ Hid (ExoAt wr K L (wS k)) ∧ Hid (RxNew wr X a b c gv w1.heap.size B1 QM QD (wL k) (List.replicate 16 (-1))) ∧ Hid (Below w.heap.size w wr)) (fun s _ => 4 - (intOf s).toNat)
 case atStart => exact ⟨1, by omega, by omega, rfl, HE2, HX, HB2⟩
 case round =>
  clear HE2 HX HB2
  obtain ⟨k, hk1, hk4, rfl, HE, HX, HB⟩ := hrel
  by_cases hlt : k ≤ 3
  ·have g0 : decide ((k : Int) ≤ 3) = true := decide_eq_true (by omega)
   have ik : (k : Int) ≤ 3 := by omega
   have hC := xcreate_at HE.out (k : Int)
   rw [show (wS k).E = wE k from rfl, wE_ok k hk1 hlt] at hC
   go_wp2_with fail
   refine hC.mono ?_
   rintro x w3 ⟨rfl, hE3, hu3⟩
   have hX3 := RxNew.keepE HX.out hu3 HEV.out.1 HEV.out.2
   obtain ⟨al, cl, cv, au, cu, hr⟩ := hX3.env
   have x2 : w3.cell? ⟨X, 2, none⟩ = some (ptr c) := by rw [cell_of_heap hX3.head]; rfl
   have hD := En.rcreate_at (k : Int) w3 hr (wL_len k hk4)
   have HE3 : Hid (ExoAt w3 K L (wS (k + 1))) := by
    show ExoAt w3 K L { S0 8 16 with E := wE (k + 1) }
    rw [wE_next k hk1]
    exact hE3
   have HX3 : Hid _ := hX3
   have HB3 : Hid (Below w.heap.size w w3) := HB.out.trans (hu3.below (fun k hk => by rcases hk with e | e; rw [e]; exact HL.out.e; rw [e]; exact HL.out.g) HB.out.size)
   have HHC : Hid _ := hr.head
   have HHG : Hid _ := hr.vec
   clear hC hE3 hu3 hX3 hr HE HX HB
   go_wp2_with fail
   refine hD.mono ?_
   rintro x w4 ⟨rfl, hR4, hu4⟩
   have HE4 : Hid (ExoAt w4 K L (wS (k + 1))) := by
    obtain ⟨row, hg, _⟩ := HHG.out
    exact ExoAt.keepR HE3.out hu4 HHC.out hg (by have := HEV.out.2; have := HX3.out.g1; omega)
   have HB4 : Hid (Below w.heap.size w w4) := HB3.out.trans (hu4.below (fun k hk => by have := HB2s.out; have := HX3.out.c1; have := HX3.out.g1; rcases hk with e | e <;> omega) HB3.out.size)
   have HX4 : Hid (RxNew w4 X a b c gv w1.heap.size B1 QM QD (wL (k + 1)) (List.replicate 16 (-1))) := by
    rw [wL_next k hk1]
    exact RxNew.keepI HX3.out hR4 hu4
   clear hD hR4 hu4 HE3 HX3 HB3 x2 HHC HHG
   go_wp2_with fail
   go_roundw
   case rel => exact ⟨k + 1, by omega, by omega, by go_num, HE4, HX4, HB4⟩
   case measure => simp [intOf]; omega
  ·obtain rfl : k = 4 := by omega
   go_wp2
   go_ret3
   have hN := HX.out
   have hbig : B1 ≤ wr.heap.size := by
    have h1 := hN.disk.lows _ (Or.inr (Or.inl rfl))
    have h2 := hN.d2
    omega
   refine ⟨K, { L with D := { L.D with M := wr.heap.size } }, X, _, rfl, ExoAt.rebase HE.out (fun i => rfl) (Nat.le_refl _), hN.refX, HB.out, ⟨HL.out.f, HL.out.x, HL.out.i, HL.out.e, HL.out.g⟩, hbig, ?_⟩
   have s1 := HB2s.out
   have s2 := hN.b1
   have s3 := hN.c1
   have s4 := hN.x1
   rintro q (hq | hq | hq)
   ·have := hN.part (foot_part hq)
    omega
   ·have := hN.d1 q hq
    omega
   ·omega
end Go.Proofs.YtbhpafgoofkkmaaGreatDoor
