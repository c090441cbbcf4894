import Derived.Test.YtbhpafgoofkkmaaGreatDoorWrMW
import Derived.Test.YtbhpafgoofkkmaaGreatDoorRsAll
import Derived.Test.YtbhpafgoofkkmaaGreatDoorRxW
import Derived.Test.YtbhpafgoofkkmaaGreatDoorXoW
set_option linter.all false
namespace Go.Proofs.YtbhpafgoofkkmaaGreatDoor
open Go.RowKit
theorem ans_len {w : World} {K : Nat} {L : XL} {S : XS} (h : ExoAt w K L S) (hi : XI S) (e : Int) (ws : List Int) (a' : Option Addr) (c' : Nat) : (rawS S e ws a' c').2.1.length ≤ 1000000 := by
 have ha : ∀ (r x : Int), (ansW r [x]).length ≤ 1000000 := by
  intro r x
  unfold ansW
  split <;> simp
 unfold rawS
 split
 ·cases hr : reqOf ws with
  | none => simp
  | some r =>
   show (rawO S e r a' c').2.1.length ≤ _
   unfold rawO
   split <;> first
    | exact ha _ _
    | (simp; done)
    | (split <;> first | exact ha _ _ | (simp; done))
    | skip
   ·cases hq : Ip.qat S.Q e with
    | nil => simp
    | cons m R =>
     have := (hi.at (e := e) (m := m) (by rw [hq]; exact List.mem_cons_self)).2.2.1
     simp
     omega
   ·show (Xd.getWw S.C S.l S.ds e r.a r.b).length ≤ _
    unfold Xd.getWw
    split
    ·rename_i hm
     have hb := Xd.mayX_in h.disk.inv hm
     rw [Xd.lookW_len h.disk.linv h.disk.len (by omega)]
     omega
    ·simp
 ·simp
structure PairP (W wr : World) (K : Nat) (L : XL) (X : Nat) (Y : RxL) (k m : Nat) (S : XS) : Prop where
 run : RunAt W wr K L m S
 ref : RefX wr X Y k S
 n : S.n = 8
 M : Y.b1 ≤ L.D.M
 q : ∀ j, j < 12 → ∀ m ∈ S.Q j, Ip.NewA Y.b1 m.a
 rp : ∀ q, RP X Y 8 q → W.heap.size ≤ q
structure MidP (W wr : World) (K : Nat) (L : XL) (X : Nat) (Y : RxL) (k m : Nat) (S S' : XS) (e : Int) : Prop where
 run : RunAt W wr K L m S'
 ref : RefX wr X Y k S
 n : S.n = 8
 n' : S'.n = 8
 M : Y.b1 ≤ L.D.M
 q : ∀ j, j < 12 → ∀ m ∈ S'.Q j, Ip.NewA Y.b1 m.a
 rp : ∀ q, RP X Y 8 q → W.heap.size ≤ q
 ok : OkR S
 hm : ∀ m ∈ Ip.qat S.Q e, 0 ≤ m.fr ∧ m.fr < 12 ∧ m.ws.length ≤ 8
section
variable {W wr w' : World} {K k m : Nat} {L : XL} {S S' : XS} {X : Nat} {Y : RxL}
theorem PairP.below (h : PairP W wr K L X Y k m S) (hb : Below wr.heap.size wr w') : PairP W w' K L X Y k m S :=
 ⟨⟨h.run.ex.below hb, h.run.xi, h.run.m, h.run.d, h.run.bl.trans (hb.mono h.run.bl.size)⟩, h.ref.below hb, h.n, h.M, h.q, h.rp⟩
theorem MidP.below {e : Int} (h : MidP W wr K L X Y k m S S' e) (hb : Below wr.heap.size wr w') : MidP W w' K L X Y k m S S' e :=
 ⟨⟨h.run.ex.below hb, h.run.xi, h.run.m, h.run.d, h.run.bl.trans (hb.mono h.run.bl.size)⟩, h.ref.below hb, h.n, h.n', h.M, h.q, h.rp, h.ok, h.hm⟩
theorem PairP.more {m' : Nat} (h : PairP W wr K L X Y k m S) (hm : m ≤ m') : PairP W wr K L X Y k m' S :=
 ⟨⟨h.run.ex, h.run.xi, by have := h.run.m; omega, h.run.d, h.run.bl⟩, h.ref, h.n, h.M, h.q, h.rp⟩
theorem PairP.old (h : PairP W wr K L X Y k m S) : Y.b1 ≤ wr.heap.size := by
 have h1 := h.ref.MS
 have h2 := h.ref.j1
 omega
theorem p_raw (h : PairP W wr K L X Y k m S) (hF : Frm W) (hL : XLow L W.heap.size) (e : Int) (v : Value) (ws : List Int) (hv : URow 0 wr v ws) (hu : U64s ws) (hm : m ≤ 800000) :
  Calls Tryz.prog 9 #[ptr K, .int .i64 e, v] wr fun x w' => ∃ a n c a' c', x = .returned (.tuple #[.slice a n c, .int .i64 (rawS S e ws a' c').2.2]) ∧ URow Y.b1 w' (.slice a n c) (rawS S e ws a' c').2.1 ∧ MidP W w' K L X Y k (m + 1) S (rawS S e ws a' c').1 e ∧ (rawS S e ws a' c').2.1.length ≤ 1000000 := by
 have hs := h.run.bl.size
 refine (rawx_at h.run.ex (hF.below (Frm.pos hF) h.run.bl) h.run.xi e v ws (fun w' ht => (URow.tch hv ht h.run.ex).rdv) hu (by have := h.run.m; omega)).mono ?_
 rintro x w' ⟨a', c', hn, a, n, c, rfl, hr, hE, ht0⟩
 have ht : XTch L True wr w' := ht0.mono (fun _ => trivial)
 have hb : Below W.heap.size W w' := h.run.bl.trans (ht.below hL.f hL.x hL.i hs)
 have hS := rawS_same S e ws a' c'
 have hm2 := hS.m
 have hm1 := h.run.m
 have ho := h.old
 exact ⟨a, n, c, a', c', rfl, hr.mono ho, ⟨⟨hE, h.run.xi.raw h.run.ex.mem.inv e ws hu a' c', by omega, hS.d.trans h.run.d, hb⟩, h.ref.tch ht h.run.ex, h.n, hS.n.trans h.n, h.M, rawS_new h.q e ws a' c' (fun g off q => by have := hn g off q; omega), h.rp, okR_of h.run.ex h.run.d, fun m hm => by
   obtain ⟨q1, q2, q3, _⟩ := h.run.xi.at hm
   exact ⟨q1, q2, q3⟩⟩, ans_len h.run.ex h.run.xi e ws a' c'⟩
theorem URow.ref {v : Value} {xs : List Int} (h : URow Y.b1 wr v xs) (hR : RefX wr X Y k S) (hu : UpdP (RP X Y S.n) wr w') : URow Y.b1 w' v xs := by
 obtain ⟨a, cap, e, h1, h2, hf⟩ := h
 refine ⟨a, cap, e, h1, h2, fun hne => ?_⟩
 obtain ⟨g, cur, ea, hM, hh, hc⟩ := hf hne
 refine ⟨g, cur, ea, hM, (hu.block g (lt_of_heap hh) (fun hp => ?_)).trans hh, hc⟩
 obtain ⟨cs, t, fr, e1, o⟩ := hR.rp g hp
 rw [hh] at e1
 simp only [Option.some.injEq, Obj.cells.injEq] at e1
 obtain ⟨_, rfl, _⟩ := e1
 rcases o with o | ⟨_, o⟩
 ·revert o
  unfold refTy
  decide
 ·omega
theorem m_raw {d : Ask} {a' : Option Addr} {c' : Nat} (h : MidP W wr K L X Y k m S (rawS S d.e d.ws a' c').1 d.e) (hd : AskOk W d) (hk : k ≤ 800) :
  Calls Tryz.prog 10 #[ptr X, .int .i64 d.e, .slice d.a d.ws.length d.cap] wr fun x w' => ∃ a n c, x = .returned (.tuple #[.slice a n c, .int .i64 (rawS S d.e d.ws a' c').2.2]) ∧ RdV w' (.slice a n c) (rawS S d.e d.ws a' c').2.1 ∧ PairP W w' K L X Y (k + 1) m (rawS S d.e d.ws a' c').1 ∧ (∀ u us, URow Y.b1 wr u us → URow Y.b1 w' u us) := by
 have hs := h.run.bl.size
 have hrp : ∀ q, RP X Y S.n q → W.heap.size ≤ q := by rw [h.n]; exact h.rp
 refine (rraw_at h.ref h.ok hk d.e h.hm _ d.ws (fun w' hu => hd.1.below (h.run.bl.trans (hu.below hrp hs))) hd.2 a' c').mono ?_
 rintro x w' ⟨a, n, c, rfl, hr, hR, hu⟩
 exact ⟨a, n, c, rfl, hr, ⟨⟨h.run.ex.keepRef hu (fun q hq => h.ref.rp q hq) h.M h.q, h.run.xi, h.run.m, h.run.d, h.run.bl.trans (hu.below hrp hs)⟩, hR, h.n', h.M, h.q, h.rp⟩, fun u us hx => URow.ref hx h.ref hu⟩
theorem p_sees (h : PairP W wr K L X Y k m S) (hL : XLow L W.heap.size) (e : Int) (hm : m ≤ 800000) :
  Calls Tryz.prog 12 #[ptr K, .int .i64 e] wr fun x w' => ∃ v S', x = .returned v ∧ URow wr.heap.size w' v (seesV S' e) ∧ PairP W w' K L X Y k (m + 1024) S' := by
 refine (sees_at h.run.ex e (by have := h.run.d; have := h.run.m; omega)).mono ?_
 rintro x w' ⟨v, m', rfl, hr, hE, _, hm', hu⟩
 refine ⟨v, S.mv m', rfl, hr, ⟨⟨hE, h.run.xi.mv m', ?_, h.run.d, h.run.bl.trans (hu.below (hL.x _ (Or.inr (Or.inl rfl))) h.run.bl.size)⟩, (h.ref.tch (XTch.of_xfoot (i := True) (Xd.updB hu)) h.run.ex).mv, h.n, h.M, h.q, h.rp⟩⟩
 have := h.run.d
 have := h.run.m
 show m' ≤ _
 omega
theorem p_rsees (h : PairP W wr K L X Y k m S) (e : Int) (hk : k ≤ 900) :
  Calls Tryz.prog 13 #[ptr X, .int .i64 e] wr fun x w' => ∃ v, x = .returned v ∧ URow wr.heap.size w' v (seesV S e) ∧ Below wr.heap.size wr w' :=
 rsees_at h.ref (okR_of h.run.ex h.run.d) h.run.d hk e (h.run.ex.ipc.len e)
theorem sees_len (h : PairP W wr K L X Y k m S) (e : Int) : (seesV S e).length ≤ 1000000 := by
 unfold seesV
 split
 ·have h1 := seesF_len S.n S.T S.vs e 64
  have h2 := seesP_len S.F e 4
  have h3 := seesX_len h.run.ex.disk.linv h.run.ex.disk.len h.run.ex.disk.inv e 64
  have h4 := h.run.d
  rw [h4] at h3
  simp [catL]
  omega
 ·simp
end
theorem rows_same {w : World} {u v : Value} {xs : List Int} (hu : RdV w u xs) (hv : RdV w v xs) (hl : xs.length ≤ 1000000) :
  Calls Tryz.prog 11 #[u, v] w fun e w' => e = .returned (.bool true) ∧ Below w.heap.size w w' := by
 obtain ⟨a, ca, rfl, _, ha⟩ := hu
 obtain ⟨b, cb, rfl, _, hb⟩ := hv
 exact Ip.words_same xs a b ca cb w ha hb hl
end Go.Proofs.YtbhpafgoofkkmaaGreatDoor
namespace Go.Proofs.YtbhpafgoofkkmaaGreatDoor
open Go.ChangeShapes Go.WideShapes Go.ChangeAt Go.RowKit
def AsksR (w : World) (a0 : Option Addr) (len : Nat) : Prop := ∀ j, j < len → ∃ gb off d, a0 = some ⟨gb, off, none⟩ ∧ AskAt w gb (off + j * 2) d ∧ d.ws.length * 8 ≤ 140737488351232
set_option maxRecDepth 100000 in
set_option maxHeartbeats 8000000 in
theorem plays_walk (a0 : Option Addr) (ll lc : Nat) (w : World) (hF : Frm w) (hl : ll ≤ 9223372036854775807) (HL : Hid (AsksR w a0 ll)) :
  Calls Tryz.prog 3 #[.slice a0 ll lc] w fun x w' => x = .returned (.bool true) ∧ Below w.heap.size w w' := by
 have HFW : Hid (Frm w) := hF
 clear hF
 have hwo := worldsF_at w
 go_enter Tryz.func3, Tryz.ntmps3
 go_wp2_with fail
 refine hwo.mono ?_
 rintro x w1 ⟨Kb, L, X, Y, rfl, hE1, hX1, hb1, hLow, hM, hrp⟩
 have HLow : Hid (XLow L w.heap.size) := hLow
 have HP1 : Hid (PairP w w1 Kb L X Y 0 0 (wS 4)) := ⟨⟨hE1, (XI.zero 8 16).env _, Nat.le_refl _, rfl, hb1⟩, hX1, rfl, hM, fun j hj m hm => (List.not_mem_nil hm).elim, hrp⟩
 clear hE1 hX1 hb1 hLow hM hrp hwo
 go_wp2
 go_loopw [6] (fun s wr => ∃ (i : Nat) (S : XS), i ≤ ll ∧ i ≤ 80 ∧ s = .int .i64 i ∧ Hid (PairP w wr Kb L X Y i (i * 6000) S)) (fun s _ => 80 - (intOf s).toNat)
 case atStart => exact ⟨0, _, by omega, by omega, rfl, HP1⟩
 case round =>
  clear HP1
  obtain ⟨i, S, hil, hi8, rfl, HR⟩ := hrel
  by_cases hlt : i < ll ∧ i < 80
  ·obtain ⟨l1, l2⟩ := hlt
   obtain ⟨gb, off, d, rfl, ⟨c0, c1, hok⟩, hsz⟩ := HL.out i l1
   have g0 : decide ((i : Int) < (ll : Int)) = true := decide_eq_true (by omega)
   have g1 : decide ((i : Int) < 80) = true := decide_eq_true (by omega)
   have g0n : decide (i < ll) = true := decide_eq_true l1
   have ii : (i : Int) < (ll : Int) := by omega
   have hdr : Below wr.heap.size wr wr.drew := (Below.refl _ _).drew
   have hPd := HR.out.below hdr
   have z0 := (hPd.run.bl.cell (cell_lt c0)).trans c0
   have z1 := (hPd.run.bl.cell (cell_lt c1)).trans c1
   obtain ⟨ac, nc, cc, w2, hrun, hO, hB, -⟩ := grow_c (OW.nil wr.drew wr.drew.heap.size) (hok.1.below hPd.run.bl).c (by simp only [List.length_nil]; omega) (Nat.le_refl _)
   have hP2 := hPd.below hB
   have hraw := p_raw hP2 HFW.out HLow.out d.e (.slice ac nc cc) d.ws ((OW.urow hO).mono (Nat.zero_le _)) hok.2 (by omega)
   have y0 := (hP2.run.bl.cell (cell_lt c0)).trans c0
   have y1 := (hP2.run.bl.cell (cell_lt c1)).trans c1
   have HRun : Hid (∀ ty, (Builtin.append_ #[27, 27] ty #[.slice none 0 0, .slice d.a d.ws.length d.cap]).run Tryz.prog wr.drew = .ok (.slice ac nc cc) w2) := hrun
   have HC : Hid _ := And.intro c0 c1
   have HOk : Hid (AskOk w d) := hok
   clear c0 c1 hok hPd HR hdr hrun hO hB hP2 hsz
   go_wp2_with fail
   refine wp_region_held_drew (S := fun w' => w'.cell? ⟨gb, off + i * 2, none⟩ = some (.int .i64 d.e) ∧ w'.cell? ⟨gb, off + i * 2 + 1, none⟩ = some (.slice d.a d.ws.length d.cap)) (by kernel_rfl) ⟨z0, z1⟩ (fun hHeld => ?_)
   refine tkz [0, 1, 2, 3, 4, 5, 6, 7, 8, 9, 10] ?_
   iterate 11
    refine tky (v := ?_) rfl (by kernel_rfl) (by kernel_rfl) (by kernel_rfl) (fun _ _ _ h => h) (Or.inl ⟨by kernel_rfl, ?_⟩) (by assumption) ?_
    rotate_left
    ·(intro w hSw; (try dsimp only at hSw); go_simp) <;> with_reducible rfl
    (try simp only [Act.put, lqa, lqb, lqc, lqd, lqe, lqf])
   refine tkw ?_
   refine wpAnyH_ready (rs := [11]) (by kernel_rfl) (by simp) ?_
   refine AllReadyH.cons rfl (fun K hK => ?_) AllReadyH.nil
   refine Ip.step_append_eq rfl (.const (.slice none 0 0)) (.tmp 40) 27 rfl (.slice none 0 0) (.slice d.a d.ws.length d.cap) (.slice ac nc cc) (by rfl) (by rfl) HRun.out ?_
   refine hK.out _ _ (And.intro y0 y1) (fun hHeld => ?_)
   clear hK K
   (try simp only [Act.put, lqa, lqb, lqc, lqd, lqe, lqf])
   refine wpAnyH_ready (rs := [12]) (by kernel_rfl) (by simp) ?_
   refine AllReadyH.cons rfl (fun K hK => ?_) AllReadyH.nil
   go_simp
   refine hraw.mono ?_
   rintro x w3 ⟨a, n, c, a', c', rfl, hA3, hM3, hlen3⟩
   have hdr3 : Below w3.heap.size w3 w3.drew := (Below.refl _ _).drew
   have q0 := (hM3.run.bl.cell (cell_lt HC.out.1)).trans HC.out.1
   have q1 := (hM3.run.bl.cell (cell_lt HC.out.2)).trans HC.out.2
   have hM3d := hM3.below hdr3
   have hraw2 := m_raw hM3d HOk.out (by omega)
   have HA3 : Hid (URow Y.b1 w3.drew (.slice a n c) _) := URow.bel hA3 hdr3
   have HLen : Hid _ := hlen3
   have HB3 : Hid (Below w.heap.size w w3.drew) := hM3d.run.bl
   generalize rawS S d.e d.ws a' c' = R at *
   obtain ⟨S3, an, er⟩ := R
   dsimp only at *
   clear hraw hA3 hM3 hlen3 hdr3 hM3d HRun
   refine hK.out _ _ (And.intro q0 q1) (fun hHeld => ?_)
   clear hK K
   (try simp only [Act.put, lqa, lqb, lqc, lqd, lqe, lqf])
   refine tkz [13, 14, 15, 16, 17] ?_
   iterate 5
    refine tky (v := ?_) rfl (by kernel_rfl) (by kernel_rfl) (by kernel_rfl) (fun _ _ _ h => h) (Or.inl ⟨by kernel_rfl, ?_⟩) (by assumption) ?_
    rotate_left
    ·(intro w hSw; (try dsimp only at hSw); go_simp) <;> with_reducible rfl
    (try simp only [Act.put, lqa, lqb, lqc, lqd, lqe, lqf])
   refine tkw ?_
   refine wpAnyH_done (by kernel_rfl) ?_ _
   clear hHeld y0 y1 z0 z1 q0 q1
   have z0 := (HB3.out.cell (cell_lt HC.out.1)).trans HC.out.1
   have z1 := (HB3.out.cell (cell_lt HC.out.2)).trans HC.out.2
   go_wp2_with fail
   refine wp_region_held_drew (S := fun w' => w'.cell? ⟨gb, off + i * 2, none⟩ = some (.int .i64 d.e) ∧ w'.cell? ⟨gb, off + i * 2 + 1, none⟩ = some (.slice d.a d.ws.length d.cap)) (by kernel_rfl) ⟨z0, z1⟩ (fun hHeld => ?_)
   refine tkz [0, 1, 2, 3, 4, 5, 6, 7, 8, 9, 10] ?_
   iterate 11
    refine tky (v := ?_) rfl (by kernel_rfl) (by kernel_rfl) (by kernel_rfl) (fun _ _ _ h => h) (Or.inl ⟨by kernel_rfl, ?_⟩) (by assumption) ?_
    rotate_left
    ·(intro w hSw; (try dsimp only at hSw); go_simp) <;> with_reducible rfl
    (try simp only [Act.put, lqa, lqb, lqc, lqd, lqe, lqf])
   refine tkw ?_
   refine wpAnyH_ready (rs := [11]) (by kernel_rfl) (by simp) ?_
   refine AllReadyH.cons rfl (fun K hK => ?_) AllReadyH.nil
   go_simp
   refine hraw2.mono ?_
   rintro x w4 ⟨a4, n4, c4, rfl, hr4, hP4, hkeep⟩
   have hW := rows_same (hkeep _ _ HA3.out).rdv hr4 HLen.out
   have q0 := (hP4.run.bl.cell (cell_lt HC.out.1)).trans HC.out.1
   have q1 := (hP4.run.bl.cell (cell_lt HC.out.2)).trans HC.out.2
   have HP4 : Hid (PairP w w4 Kb L X Y (i + 1) (i * 6000 + 1) S3) := hP4
   clear hraw2 hr4 hP4 hkeep HA3 HLen HB3
   refine hK.out _ _ (And.intro q0 q1) (fun hHeld => ?_)
   clear hK K
   (try simp only [Act.put, lqa, lqb, lqc, lqd, lqe, lqf])
   refine tkz [12, 13, 14, 15, 16] ?_
   iterate 5
    refine tky (v := ?_) rfl (by kernel_rfl) (by kernel_rfl) (by kernel_rfl) (fun _ _ _ h => h) (Or.inl ⟨by kernel_rfl, ?_⟩) (by assumption) ?_
    rotate_left
    ·(intro w hSw; (try dsimp only at hSw); go_simp) <;> with_reducible rfl
    (try simp only [Act.put, lqa, lqb, lqc, lqd, lqe, lqf])
   refine tkw ?_
   refine wpAnyH_done (by kernel_rfl) ?_ _
   clear hHeld q0 q1 z0 z1
   go_wp2_with fail
   refine Calls.mono hW ?_
   rintro x w5 ⟨rfl, hb5⟩
   have HP5 : Hid (PairP w w5 Kb L X Y (i + 1) (i * 6000 + 1 + 0 * 1024) S3) := (HP4.out.below hb5).more (by omega)
   clear hW hb5 HP4
   go_wp2
   go_loopw [11] (fun s wq => ∃ (e : Nat) (S : XS), e ≤ 5 ∧ s = .int .i64 e ∧ Hid (PairP w wq Kb L X Y (i + 1) (i * 6000 + 1 + e * 1024) S)) (fun s _ => 5 - (intOf s).toNat)
   case atStart => exact ⟨0, _, by omega, rfl, HP5⟩
   case round =>
    clear HP5
    obtain ⟨e, S5, he, rfl, HP⟩ := hrel
    by_cases hlt : e < 5
    ·have ie : (e : Int) ≤ 4 := by omega
     have ge : decide ((e : Int) ≤ 4) = true := decide_eq_true ie
     have hS := p_sees HP.out HLow.out (e : Int) (by omega)
     clear HP
     go_wp2_with fail
     refine hS.mono ?_
     rintro x w6 ⟨v6, S6, rfl, hr6, hP6⟩
     have hS2 := p_rsees hP6 (e : Int) (by omega)
     obtain ⟨a6, n6, c6, rfl⟩ := hr6.shape
     have HR6 : Hid (URow _ w6 _ _) := hr6
     have HP6 : Hid _ := hP6
     clear hS hr6 hP6
     go_wp2_with fail
     refine hS2.mono ?_
     rintro x w7 ⟨v7, rfl, hr7, hb7⟩
     obtain ⟨a7, n7, c7, rfl⟩ := hr7.shape
     have hW := rows_same (URow.bel HR6.out hb7).rdv hr7.rdv (sees_len HP6.out (e : Int))
     have HP7 : Hid _ := HP6.out.below hb7
     clear hS2 hr7 hb7 HR6 HP6
     go_wp2_with fail
     refine Calls.mono hW ?_
     rintro x w8 ⟨rfl, hb8⟩
     have HP8 : Hid (PairP w w8 Kb L X Y (i + 1) (i * 6000 + 1 + (e + 1) * 1024) S6) := (HP7.out.below hb8).more (by omega)
     clear hW hb8 HP7
     go_wp2
     go_roundw
     case rel => exact ⟨e + 1, S6, by omega, by go_num, HP8⟩
     case measure => simp [intOf]; omega
    ·have ge : decide ((e : Int) ≤ 4) = false := decide_eq_false (by omega)
     have HPn : Hid (PairP w wr Kb L X Y (i + 1) ((i + 1) * 6000) S5) := HP.out.more (by omega)
     clear HP
     go_wp2
     go_roundw
     case rel => exact ⟨i + 1, S5, by omega, by omega, by go_num, HPn⟩
     case measure => simp [intOf]; omega
  ·have hor : decide ((i : Int) < (ll : Int)) = true ∧ decide ((i : Int) < 80) = false ∧ i < ll ∧ 80 ≤ i ∨ decide ((i : Int) < (ll : Int)) = false ∧ ll ≤ i := by
    by_cases h0 : i < ll
    ·exact Or.inl ⟨decide_eq_true (by omega), decide_eq_false (by omega), h0, by omega⟩
    ·exact Or.inr ⟨decide_eq_false (by omega), by omega⟩
   have HB : Hid (Below w.heap.size w wr) := HR.out.run.bl
   have hFw := HFW.out.below (Frm.pos HFW.out) HB.out
   have haw := awake_at wr hFw
   clear HR hlt HL
   rcases hor with ⟨g0, g1, g2, g3⟩ | ⟨g0, g2⟩
   all_goals
    go_wp2_with fail
    refine haw.mono ?_
    rintro x w6 ⟨rfl, hb6⟩
    go_wp2
    go_ret
    exact ⟨rfl, HB.out.trans (hb6.mono HB.out.size)⟩
end Go.Proofs.YtbhpafgoofkkmaaGreatDoor
