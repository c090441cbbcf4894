import Derived.Test.YtinaeifpoljfoaaGreatDoorUrE22
import Derived.Test.YtinaeifpoljfoaaGreatDoorFdOTFdR
import Derived.Test.YtinaeifpoljfoaaGreatDoorRdB18
import Derived.Test.YtinaeifpoljfoaaGreatDoorRpATRpD
import Derived.Test.YtinaeifpoljfoaaGreatDoorRsG
import Derived.Test.YtinaeifpoljfoaaGreatDoorRqF
set_option linter.all false
set_option maxRecDepth 100000
set_option maxHeartbeats 16000000
namespace Go.Proofs.YtinaeifpoljfoaaGreatDoor
open Go.RowKit
theorem put_isU {w : World} {g : Nat} {t : TypeId} {row row' : Array Value} (hr : w.heap[g]? = some (.cells row t)) (ht : t = 60 ∨ t = 61) : (∀ k, IsU w k → (w.setRow g row').heap[k]? = w.heap[k]?) ∧ Sg.KeepW w (w.setRow g row') := by
 have hu := Upd.setRow g w row'
 have h1 : unB t = false := by rcases ht with rfl | rfl <;> rfl
 have h2 : t ≠ 45 := by rcases ht with rfl | rfl <;> decide
 refine ⟨fun k hk => hu.block k hk.lt (fun e => ?_), fun k cs f hk => hu.block k (lt_of_heap hk) (fun e => ?_)⟩
 ·subst e
  exact not_isU hr h1 hk
 ·subst e
  rw [hr] at hk;simp only [Option.some.injEq, Obj.cells.injEq] at hk;exact h2 hk.2.1
def fdI (l : List Int) (w : World) (b : Nat) : Prop := Fd.FdAt w b (Fd.decS l)
def ppI (l : List Int) (w : World) (b : Nat) : Prop := ∃ S, Pp.decS l = some S ∧ Pp.PpAt w b S
def sgI (l : List Int) (w : World) (b : Nat) : Prop := ∃ S, Sg.decS l = some S ∧ Sg.SgAt w b S
def pcI (l : List Int) (w : World) (b : Nat) : Prop := ∃ B, Pc.PrAt w B b (Pc.decS l)
def ppO (l : List Int) : Bool := (Pp.decS l).isSome
def sgO (l : List Int) : Bool := (Sg.decS l).isSome
theorem decI_fds : DecI 15 Fd.okW fdI := by
 refine ⟨fun a n cap l w hr hn hc hu hl => ?_, fun l w w' b h hb => Fd.FdAt.below h hb, fun l w b g t row row' h hg ht => ?_⟩
 ·subst hn
  refine (Fd.decode_at a cap l w hr hu hc (by omega)).mono ?_;rintro e w' ⟨h1, h2, hb⟩
  cases ho : Fd.okW l with
  | true =>
   obtain ⟨b, rfl, hbb, hA⟩ := h1 ho;exact ⟨_, _, rfl, fun _ => ⟨rfl, b, rfl, hbb, hA⟩, (fun q => by cases q), hb⟩
  | false =>
   obtain rfl := h2 ho;exact ⟨_, _, rfl, (fun q => by cases q), fun _ => ⟨rfl, rfl⟩, hb⟩
 ·obtain ⟨rf, hf, h1⟩ := Fd.FdAt.head h
  exact Fd.FdAt.keep h ((put_isU hg ht).1 b (Or.inr ⟨_, _, _, hf, rfl⟩))
theorem decI_pipes : DecI 16 ppO ppI := by
 refine ⟨fun a n cap l w hr hn hc hu hl => ?_, fun l w w' b ⟨S, hS, h⟩ hb => ⟨S, hS, h.below hb⟩, fun l w b g t row row' ⟨S, hS, h⟩ hg ht => ?_⟩
 ·refine (Pp.decode_at a n cap l w hr hn hc hu hl).mono ?_
  rintro e w' ⟨h1, h2, hb⟩;unfold ppO
  cases ho : Pp.decS l with
  | none =>
   obtain rfl := h1 ho;exact ⟨_, _, rfl, (fun q => by cases q), fun _ => ⟨rfl, rfl⟩, hb⟩
  | some S =>
   obtain ⟨rfl, hA⟩ := h2 S ho;exact ⟨_, _, rfl, fun _ => ⟨rfl, _, rfl, Nat.le_refl _, S, ho, hA⟩, (fun q => by cases q), hb⟩
 ·refine ⟨S, hS, ?_⟩
  obtain ⟨rf, hf, h1⟩ := id h;exact h.keep ((put_isU hg ht).1 b (Or.inr ⟨_, _, _, hf, rfl⟩))
theorem decI_signals : DecI 17 sgO sgI := by
 refine ⟨fun a n cap l w hr hn hc hu hl => ?_, fun l w w' b ⟨S, hS, h⟩ hb => ⟨S, hS, h.below hb⟩, fun l w b g t row row' ⟨S, hS, h⟩ hg ht => ?_⟩
 ·refine (Sg.decode_at a n cap l w hr hn hc hu hl).mono ?_
  rintro e w' ⟨h1, h2, hb⟩;unfold sgO
  cases ho : Sg.decS l with
  | none =>
   obtain rfl := h1 ho;exact ⟨_, _, rfl, (fun q => by cases q), fun _ => ⟨rfl, rfl⟩, hb⟩
  | some S =>
   obtain ⟨rfl, hA⟩ := h2 S ho;exact ⟨_, _, rfl, fun _ => ⟨rfl, _, rfl, Nat.le_refl _, S, ho, hA⟩, (fun q => by cases q), hb⟩
 ·refine ⟨S, hS, ?_⟩
  obtain ⟨rf, hf, h1⟩ := id h;exact h.keep ((put_isU hg ht).1 b (Or.inr ⟨_, _, _, hf, rfl⟩)) (put_isU hg ht).2
theorem decI_procs : DecI 18 Pc.okW pcI := by
 refine ⟨fun a n cap l w hr hn hc hu hl => ?_, fun l w w' b ⟨B, h⟩ hb => ⟨B, h.below hb⟩, fun l w b g t row row' ⟨B, h⟩ hg ht => ⟨B, procs_keep h (fun k hk => (put_isU hg ht).1 k (pb_isU hk))⟩⟩
 refine (Pc.decode_at a n cap l w hr hn hc hu (by omega)).mono ?_;rintro e w' ⟨⟨h1, rfl, hA⟩ | ⟨h1, rfl⟩, hb⟩
 ·exact ⟨_, _, rfl, fun _ => ⟨rfl, _, rfl, Nat.le_refl _, _, hA⟩, (fun q => by rw [h1] at q; cases q), hb⟩
 ·exact ⟨_, _, rfl, (fun q => by rw [h1] at q; cases q), fun _ => ⟨rfl, rfl⟩, hb⟩
def pcX (l : List Int) : Int := if Pc.okW l then 0 else 101
theorem xdecI_fds : XDecI 19 Fd.deE := ⟨fun a n cap l w hr hn hc hu hl => Fd.rdecode_at a n cap l w hr hn hc hu hl⟩
theorem xdecI_pipes : XDecI 20 Pp.deE := ⟨fun a n cap l w hr hn hc hu hl => Pp.xdecode_at a n cap l w hr hn hu hl⟩
theorem xdecI_signals : XDecI 21 Sg.deE := ⟨fun a n cap l w hr hn hc hu hl => Sg.xdecode_at a n cap l w hr hn hc hu hl⟩
theorem xdecI_procs : XDecI 22 pcX := ⟨fun a n cap l w hr hn hc hu hl => by
  refine (Pc.rdecode_at a n cap l w hr hn hc hu (by omega)).mono ?_;unfold pcX;rintro e w' ⟨⟨h1, c, rfl⟩ | ⟨h1, rfl⟩, hb⟩
  · rw [h1]; exact ⟨⟨_, rfl⟩, hb⟩
  · rw [h1]; exact ⟨⟨_, rfl⟩, hb⟩⟩
theorem xU_ok (D : List Int) : xU Fd.deE Pp.deE Sg.deE pcX D = if okU Fd.okW ppO sgO Pc.okW D then 0 else 101 := by
 unfold xU okU
 rcases pts D with _ | (_ | ⟨l0, (_ | ⟨l1, (_ | ⟨l2, (_ | ⟨l3, (_ | ⟨l4, r⟩)⟩)⟩)⟩)⟩)
 all_goals try rfl
 show (if Fd.deE l0 = 0 ∧ Pp.deE l1 = 0 ∧ Sg.deE l2 = 0 ∧ pcX l3 = 0 then (0 : Int) else 101) = if (Fd.okW l0 && (ppO l1 && (sgO l2 && Pc.okW l3))) = true then 0 else 101
 unfold Fd.deE Pp.deE Sg.deE pcX ppO sgO
 cases Fd.okW l0 <;> cases (Pp.decS l1).isSome <;> cases (Sg.decS l2).isSome <;> cases Pc.okW l3 <;> rfl
theorem encI_fds : EncI 23 Fd.okW fdI := ⟨fun l w b hok hu h => by
  have ho := hok;unfold Fd.okW at ho;simp only [Bool.and_eq_true] at ho;have hE := Fd.encode_at b (Fd.decS l) w h (Fd.decS_iv ho.1.1.1 ho.1.2) (Fd.decS_fit hu ho.1.1.1 ho.1.2 ho.1.1.2);rw [Fd.enc_dec hu hok] at hE;refine hE.mono ?_;rintro e w' ⟨v, rfl, hown, hb⟩;obtain ⟨a, c, rfl, hc, hr⟩ := Ow.own_rd hown
  exact ⟨a, c, rfl, hc, hr, hb⟩⟩
theorem encI_pipes : EncI 24 ppO ppI := ⟨fun l w b hok hu ⟨S, hS, h⟩ => by
  have hE := Pp.encode_at b S w h;rw [(Pp.dec_back (fun x hx => (hu x hx).1) hS).1] at hE;refine hE.mono ?_;rintro e w' ⟨v, rfl, hown, hb⟩;obtain ⟨a, c, rfl, hc, hr⟩ := Ow.own_rd hown
  exact ⟨a, c, rfl, hc, hr, hb⟩⟩
theorem encI_signals : EncI 25 sgO sgI := ⟨fun l w b hok hu ⟨S, hS, h⟩ => by
  have hE := Sg.encode_at b S w h (Sg.dec_back hu hS).2.1;rw [(Sg.dec_back hu hS).1] at hE;refine hE.mono ?_;rintro e w' ⟨v, rfl, hown, hb⟩;obtain ⟨a, c, rfl, hc, hr⟩ := Ow.own_rd hown
  exact ⟨a, c, rfl, hc, hr, hb⟩⟩
theorem encI_procs : EncI 26 Pc.okW pcI := ⟨fun l w b hok hu ⟨B, h⟩ => by
  have hE := Pc.encode_at B b (Pc.decS l) w h;have ho := hok;unfold Pc.okW at ho;rw [Bool.and_eq_true, Bool.and_eq_true, decide_eq_true_eq] at ho;rw [Pc.enc_dec hu ho.1 ho.2.1] at hE;refine hE.mono ?_;rintro e w' ⟨v, rfl, hown, hb⟩;obtain ⟨a, c, rfl, hc, hr⟩ := Ow.own_rd hown
  exact ⟨a, c, rfl, hc, hr, hb⟩⟩
theorem results_cttt {P : Program} {fn : Func} {p u v s : Tmp} {t1 : TypeId} (h : fn.results = #[.cell p t1, .tmp u, .tmp v, .tmp s]) (tmps : Array Value) (w : World) (g1 : Nat) (c1 : Array Value) (f1 : Nat × Nat) (d1 : TypeDesc)
  (hp : tmps.getD p undef = .pointer (some ⟨g1, 0, none⟩)) (hg1 : w.heap[g1]? = some (.cells c1 t1 f1)) (hu1 : P.underlying t1 = some d1) (hd1 : (match d1 with | .struct _ | .array _ _ => true | _ => false) = true) (hi1 : (P.info? t1).map (·.size) = some c1.size) :
  (results fn tmps).run P w = .ok (.tuple #[.agg c1, tmps.getD u undef, tmps.getD v undef, tmps.getD s undef]) w := by
 have hp' : tmps[p]?.getD undef = .pointer (some ⟨g1, 0, none⟩) := by simpa using hp
 simp [results, h, hp', asAddr, run_loadVar_row w g1 t1 t1 c1 f1 d1 hg1 hu1 hd1 hi1]
theorem clSize : (Tryz.prog.info? 47).map (·.size) = some 6 := by kernel_rfl
theorem reSize : (Tryz.prog.info? 38).map (·.size) = some 5 := by kernel_rfl
abbrev guV (t : TypeId) (v : Value) : Value := .iface 192 (.agg #[.iface t v])
theorem Do_at {w : World} {L : Pl} {U U' : Un} {o : Ou} (h : UnAt w L U) (t : TypeId) (v : Value) (hn : ∀ W, (binOp BinOp.eql 94 (.iface t v) .nilIface).run Tryz.prog W = .ok (.bool false) W) (pid : Int) (x : Cl) (i : List UInt8) (hlv : Pc.liv U.T pid = true)
  (hC : ∀ W, UnAt W L U → Calls Tryz.prog 36 #[.agg (tkR L.c (guV t v) pid x i)] W (Left L o U' W)) :
  Calls Tryz.prog 10 #[ptr L.c, .iface t v, .int .i64 pid, .agg (clR x), Pp.tx i] w fun e w' => e = .returned (.tuple #[.agg (reR o), Pp.tx o.o, .int .i64 o.k, .bool o.w]) ∧ UnAt w' L U' ∧ UT L.lo w w' := by
 unfold Left at hC;obtain ⟨WC, WZ, hWC, hWZ, hB, hyC, hyZ⟩ := blk2 w (clR x) 47 (reR Ou.zero) 38;have HA0 : Hid (UnAt WZ L U) := h.below hB;have HB0 := hid hB;obtain ⟨cb, hCb⟩ : ∃ k, k = w.heap.size := ⟨_, rfl⟩;rw [← hCb] at hyC;have HC := hid hyC;have HCb := hid hCb;have HWC : Hid _ := hWC;obtain ⟨zb, hZb⟩ : ∃ k, k = w.heap.size + 1 := ⟨_, rfl⟩;rw [← hZb] at hyZ;have HZ := hid hyZ;have HZb := hid hZb;have HWZ : Hid _ := hWZ;have HU := hid h;clear hWC hCb hWZ hZb hB h;have hz : (#[.int .i64 0, .int .i64 0, .string ⟨#[]⟩, .int .i64 0, .int .i64 0] : Array Value) = reR Ou.zero := rfl;have hLv := ulive_at HA0.out pid;rw [hlv] at hLv;have hGu := guard_at t v hn;obtain ⟨cc, hcc⟩ : ∃ c, c = L.c := ⟨_, rfl⟩;rw [← hcc] at hC hLv ⊢;have Hcc := hid hcc
 have hS : ∀ W, UT L.lo WZ W → W.rangeAt cb 0 [.int .i64 x.n, .int .u64 x.a, .int .u64 x.b, .int .u64 x.c, Pp.tx x.t, Pp.tx x.u] := fun W hW => by
  have hb := hW.other HC.out rfl;intro j v hv;rw [Nat.zero_add, cell_of_heap hb]
  simpa using hv
 have hBd : ∀ W, (Instr.build 99 #[(0, ptr cc), (1, guV t v), (2, .int .i64 pid), (3, .agg #[Value.int .i64 x.n, .int .u64 x.a, .int .u64 x.b, .int .u64 x.c, Pp.tx x.t, Pp.tx x.u]), (4, Pp.tx i)]).run Tryz.prog W = .ok (.agg (tkR cc (guV t v) pid x i)) W := fun W => by kernel_rfl
 obtain ⟨R, hR⟩ : ∃ R, R = ouR o := ⟨_, rfl⟩
 have HRs : Hid (R.size = 8) := by rw [hR]; exact ouR_size _
 have HOne : Hid (R.all (·.oneCell') = true) := by rw [hR]; exact ouR_one _
 have HRq := hid hR;rw [← hR] at hC
 have hDo : ∀ W, UnAt W L U → Calls Tryz.prog 36 #[.agg (tkR cc (guV t v) pid x i)] W fun e w' => e = .returned (.agg R) ∧ UnAt w' L U' ∧ UT L.lo W w' := hC
 clear hC hR hyC hyZ hcc hn hlv
 go_enter Tryz.func10, Tryz.ntmps10
 go_wp2_with fail
 rw [← HWC.out, ← HWZ.out];rw [← HZb.out];rw [← HCb.out];refine hLv.mono ?_;rintro e w1 ⟨rfl, hw⟩;rw [hw];clear hw w1 hLv
 go_upto_region 3 with fail
 go_cut [14] (fun p wc => ∃ fb, p = ptr fb ∧ WZ.heap.size ≤ fb ∧ wc.heap[fb]? = some (.cells R 96) ∧ UnAt wc L U' ∧ UT L.lo WZ wc)
 case first => as_aux_lemma =>
  refine wp_region_held_drew (S := fun w' => w'.rangeAt cb 0 [Value.int .i64 x.n, .int .u64 x.a, .int .u64 x.b, .int .u64 x.c, Pp.tx x.t, Pp.tx x.u]) (by kernel_rfl) (hS _ (UT.of_below (Di.drewN_below (w := WZ) ⟨1, rfl⟩))) (fun hHeld => ?_);refine tkz [0, 1, 3] ?_
  iterate 3
   refine tkq (v := ?_) rfl (Or.inl ⟨by kernel_rfl, ?_⟩) ?_
   rotate_left
   ·(intro w hSw; (try dsimp only at hSw); go_simp) <;> with_reducible rfl
   (try simp only [Act.put, lq])
  refine tkw ?_;refine tkv 4 (.agg ([Value.int .i64 x.n, .int .u64 x.a, .int .u64 x.b, .int .u64 x.c, Pp.tx x.t, Pp.tx x.u]).toArray) rfl (yieldsIf_load_mid (by kernel_rfl) 47 _ rfl cb 0 rfl ([Value.int .i64 x.n, .int .u64 x.a, .int .u64 x.b, .int .u64 x.c, Pp.tx x.t, Pp.tx x.u]) _ (fun w hw => hw) Tryz.underlying47 rfl (clSize)) ?_
  (try simp only [Act.put, lq])
  refine tkz [5] ?_
  iterate 1
   refine tkq (v := ?_) rfl (Or.inl ⟨by kernel_rfl, ?_⟩) ?_
   rotate_left
   ·(intro w hSw; (try dsimp only at hSw); go_simp) <;> with_reducible rfl
   (try simp only [Act.put, lq])
  refine tkw ?_;obtain ⟨v0, hv0⟩ : ∃ V, V = WZ.drew := ⟨_, rfl⟩
  have H0 : Hid (UT L.lo WZ v0) := by rw [hv0]; exact UT.of_below (Di.drewN_below (w := WZ) ⟨1, rfl⟩)
  have A0 : Hid (UnAt v0 L U) := by rw [hv0]; exact HA0.out.below (Di.drewN_below (w := WZ) ⟨1, rfl⟩)
  rw [← hv0];clear hv0;generalize tkR cc (guV t v) pid x i = TK at hBd hDo;refine wpAnyH_ready (rs := [2, 8]) (by kernel_rfl) (by simp) ?_;refine AllReadyH.cons rfl (fun K hK => ?_) (AllReadyH.cons rfl (fun K hK => ?_) (AllReadyH.nil))
  ·go_simp
   refine (hGu v0).mono ?_;rintro e v1 ⟨rfl, hw⟩
   have hu : UT L.lo v0 v1 := by rw [hw]; exact UT.refl _ _
   have ha : UnAt v1 L U := by rw [hw]; exact A0.out
   clear hw;have H1 : Hid (UT L.lo WZ v1) := H0.out.trans hu;have A1 := hid ha;clear hu ha;refine hK.out _ _ (hS _ H1.out) (fun hHeld => ?_);clear hK K
   (try simp only [Act.put, lq])
   refine tkv 6 (.agg TK) rfl (yieldsIf_build (by kernel_rfl) 99 [(0, .tmp 20), (1, .tmp 22), (2, .tmp 23), (3, .tmp 24), (4, .tmp 25)] rfl [(0, ptr cc), (1, guV t v), (2, .int .i64 pid), (3, .agg #[Value.int .i64 x.n, .int .u64 x.a, .int .u64 x.b, .int .u64 x.c, Pp.tx x.t, Pp.tx x.u]), (4, Pp.tx i)] rfl _ hBd) ?_
   (try simp only [Act.put, lq])
   refine wpAnyH_ready (rs := [7, 8]) (by kernel_rfl) (by simp) ?_;refine AllReadyH.cons rfl (fun K hK => ?_) (AllReadyH.cons rfl (fun K hK => ?_) (AllReadyH.nil))
   ·go_simp
    refine (hDo v1 A1.out).mono ?_;rintro e v2 ⟨rfl, ha, hu⟩;have H2 : Hid (UT L.lo WZ v2) := H1.out.trans hu;have A2 := hid ha;clear hu ha;refine hK.out _ _ (hS _ H2.out) (fun hHeld => ?_);clear hK K
    (try simp only [Act.put, lq])
    refine rdy 8 rfl fun K hK => ?_
    refine step_alloc rfl 96 rfl (ouR Ou.zero) out_alloc ?_;obtain ⟨v3, hv⟩ : ∃ V, V = v2.alloc (.cells (ouR Ou.zero) 96) := ⟨_, rfl⟩;obtain ⟨fb, hfb⟩ : ∃ k, k = v2.heap.size := ⟨_, rfl⟩
    have H3 : Hid (UT L.lo WZ v3) := by rw [hv]; exact H2.out.trans (UT.of_below (below_alloc v2 _))
    have A3 : Hid (UnAt v3 L U') := by rw [hv]; exact A2.out.below (below_alloc v2 _)
    have P3 : Hid (v3.heap[fb]? = some (.cells (ouR Ou.zero) 96)) := by rw [hv, hfb]; exact heap_alloc_new _ _
    have HL : Hid (WZ.heap.size ≤ fb) := by rw [hfb]; exact H2.out.size
    rw [← hv, ← hfb];clear hv hfb;refine hK.out _ _ (hS _ H3.out) (fun hHeld => ?_);clear hK K
    (try simp only [Act.put, lq])
    refine rdy 9 rfl fun K hK => ?_
    refine step_store_row rfl 96 (.tmp 14) (.tmp 27) rfl fb R rfl rfl 96 (ouR Ou.zero) P3.out (by rw [HRs.out]; exact ouSize) (by rw [HRs.out]; rfl) HOne.out ?_;have HQ : Hid ((v3.setRow fb R).heap[fb]? = some (.cells R 96)) := setRow_heap _ fb _ _ _ _ P3.out;have HE : Hid (UT L.lo WZ (v3.setRow fb R)) := H3.out.far HL.out;have HAe : Hid (UnAt (v3.setRow fb R) L U') := A3.out.row P3.out rfl (by decide) (by decide);refine hK.out _ _ (hS _ HE.out) (fun hHeld => ?_);clear hK K
    (try simp only [Act.put, lq])
    refine wpAnyH_done (by kernel_rfl) ?_ _;clear hS hGu hDo hBd
    go_wp2_with fail
    go_meet
    case rel => exact ⟨fb, rfl, HL.out, HQ.out, HAe.out, HE.out⟩
   ·refine step_alloc rfl 96 rfl (ouR Ou.zero) out_alloc ?_
    obtain ⟨v2, hv⟩ : ∃ V, V = v1.alloc (.cells (ouR Ou.zero) 96) := ⟨_, rfl⟩;obtain ⟨fb, hfb⟩ : ∃ k, k = v1.heap.size := ⟨_, rfl⟩
    have H2 : Hid (UT L.lo WZ v2) := by rw [hv]; exact H1.out.trans (UT.of_below (below_alloc v1 _))
    have A2 : Hid (UnAt v2 L U) := by rw [hv]; exact A1.out.below (below_alloc v1 _)
    have P2 : Hid (v2.heap[fb]? = some (.cells (ouR Ou.zero) 96)) := by rw [hv, hfb]; exact heap_alloc_new _ _
    have HL : Hid (WZ.heap.size ≤ fb) := by rw [hfb]; exact H1.out.size
    rw [← hv, ← hfb];clear hv hfb;refine hK.out _ _ (hS _ H2.out) (fun hHeld => ?_);clear hK K
    (try simp only [Act.put, lq])
    refine rdy 7 rfl fun K hK => ?_
    go_simp;refine (hDo v2 A2.out).mono ?_;rintro e v3 ⟨rfl, ha, hu⟩;have H3 : Hid (UT L.lo WZ v3) := H2.out.trans hu;have A3 := hid ha;have P3 : Hid (v3.heap[fb]? = some (.cells (ouR Ou.zero) 96)) := hu.other P2.out rfl;clear hu ha;refine hK.out _ _ (hS _ H3.out) (fun hHeld => ?_);clear hK K
    (try simp only [Act.put, lq])
    refine rdy 9 rfl fun K hK => ?_
    refine step_store_row rfl 96 (.tmp 14) (.tmp 27) rfl fb R rfl rfl 96 (ouR Ou.zero) P3.out (by rw [HRs.out]; exact ouSize) (by rw [HRs.out]; rfl) HOne.out ?_;have HQ : Hid ((v3.setRow fb R).heap[fb]? = some (.cells R 96)) := setRow_heap _ fb _ _ _ _ P3.out;have HE : Hid (UT L.lo WZ (v3.setRow fb R)) := H3.out.far HL.out;have HAe : Hid (UnAt (v3.setRow fb R) L U') := A3.out.row P3.out rfl (by decide) (by decide);refine hK.out _ _ (hS _ HE.out) (fun hHeld => ?_);clear hK K
    (try simp only [Act.put, lq])
    refine wpAnyH_done (by kernel_rfl) ?_ _;clear hS hGu hDo hBd
    go_wp2_with fail
    go_meet
    case rel => exact ⟨fb, rfl, HL.out, HQ.out, HAe.out, HE.out⟩
  ·refine step_alloc rfl 96 rfl (ouR Ou.zero) out_alloc ?_
   obtain ⟨v1, hv⟩ : ∃ V, V = v0.alloc (.cells (ouR Ou.zero) 96) := ⟨_, rfl⟩;obtain ⟨fb, hfb⟩ : ∃ k, k = v0.heap.size := ⟨_, rfl⟩
   have H1 : Hid (UT L.lo WZ v1) := by rw [hv]; exact H0.out.trans (UT.of_below (below_alloc v0 _))
   have A1 : Hid (UnAt v1 L U) := by rw [hv]; exact A0.out.below (below_alloc v0 _)
   have P1 : Hid (v1.heap[fb]? = some (.cells (ouR Ou.zero) 96)) := by rw [hv, hfb]; exact heap_alloc_new _ _
   have HL : Hid (WZ.heap.size ≤ fb) := by rw [hfb]; exact H0.out.size
   rw [← hv, ← hfb];clear hv hfb;refine hK.out _ _ (hS _ H1.out) (fun hHeld => ?_);clear hK K
   (try simp only [Act.put, lq])
   refine rdy 2 rfl fun K hK => ?_
   go_simp;refine (hGu v1).mono ?_;rintro e v2 ⟨rfl, hw⟩
   have hu : UT L.lo v1 v2 := by rw [hw]; exact UT.refl _ _
   have ha : UnAt v2 L U := by rw [hw]; exact A1.out
   clear hw;have H2 : Hid (UT L.lo WZ v2) := H1.out.trans hu;have A2 := hid ha;have P2 : Hid (v2.heap[fb]? = some (.cells (ouR Ou.zero) 96)) := hu.other P1.out rfl;clear hu ha;refine hK.out _ _ (hS _ H2.out) (fun hHeld => ?_);clear hK K
   (try simp only [Act.put, lq])
   refine tkv 6 (.agg TK) rfl (yieldsIf_build (by kernel_rfl) 99 [(0, .tmp 20), (1, .tmp 22), (2, .tmp 23), (3, .tmp 24), (4, .tmp 25)] rfl [(0, ptr cc), (1, guV t v), (2, .int .i64 pid), (3, .agg #[Value.int .i64 x.n, .int .u64 x.a, .int .u64 x.b, .int .u64 x.c, Pp.tx x.t, Pp.tx x.u]), (4, Pp.tx i)] rfl _ hBd) ?_
   (try simp only [Act.put, lq])
   refine rdy 7 rfl fun K hK => ?_
   go_simp;refine (hDo v2 A2.out).mono ?_;rintro e v3 ⟨rfl, ha, hu⟩;have H3 : Hid (UT L.lo WZ v3) := H2.out.trans hu;have A3 := hid ha;have P3 : Hid (v3.heap[fb]? = some (.cells (ouR Ou.zero) 96)) := hu.other P2.out rfl;clear hu ha;refine hK.out _ _ (hS _ H3.out) (fun hHeld => ?_);clear hK K
   (try simp only [Act.put, lq])
   refine rdy 9 rfl fun K hK => ?_
   refine step_store_row rfl 96 (.tmp 14) (.tmp 27) rfl fb R rfl rfl 96 (ouR Ou.zero) P3.out (by rw [HRs.out]; exact ouSize) (by rw [HRs.out]; rfl) HOne.out ?_;have HQ : Hid ((v3.setRow fb R).heap[fb]? = some (.cells R 96)) := setRow_heap _ fb _ _ _ _ P3.out;have HE : Hid (UT L.lo WZ (v3.setRow fb R)) := H3.out.far HL.out;have HAe : Hid (UnAt (v3.setRow fb R) L U') := A3.out.row P3.out rfl (by decide) (by decide);refine hK.out _ _ (hS _ HE.out) (fun hHeld => ?_);clear hK K
   (try simp only [Act.put, lq])
   refine wpAnyH_done (by kernel_rfl) ?_ _;clear hS hGu hDo hBd
   go_wp2_with fail
   go_meet
   case rel => exact ⟨fb, rfl, HL.out, HQ.out, HAe.out, HE.out⟩
 case rest =>
  obtain ⟨fb, rfl, hfb, hfr, hac, huc⟩ := hcut;have HFr := hid hfr;have HZc : Hid (wc.heap[zb]? = some (.cells (reR Ou.zero) 38)) := huc.other HZ.out rfl;have HAc := hid hac;have HUc := hid huc
  have hne : fb ≠ zb := by have := lt_of_heap HZ.out; omega
  have HNe := hid hne;clear hS hGu hfr hac huc hne hfb;obtain ⟨on, oe, od, oa, ob, oo, ok, ow⟩ := o
  have hS : ∀ W : World, W.heap[fb]? = some (.cells R 96) → W.rangeAt fb 0 [.int .i64 on, .int .i64 oe, Pp.tx od, .int .i64 oa, .int .i64 ob] ∧ W.cell? ⟨fb, 5, none⟩ = some (Pp.tx oo) ∧ W.cell? ⟨fb, 6, none⟩ = some (.int .i64 ok) ∧ W.cell? ⟨fb, 7, none⟩ = some (.bool ow) := fun W hb => by
   rw [HRq.out] at hb;refine ⟨fun j v hv => ?_, by rw [cell_of_heap hb]; rfl, by rw [cell_of_heap hb]; rfl, by rw [cell_of_heap hb]; rfl⟩;rw [Nat.zero_add, cell_of_heap hb]
   match j, hv with
   | 0, hv => exact hv
   | 1, hv => exact hv
   | 2, hv => exact hv
   | 3, hv => exact hv
   | 4, hv => exact hv
   | j + 5, hv => simp at hv
  clear hDo
  go_upto_region 4 with fail
  obtain ⟨v0, hv0⟩ : ∃ V, V = wc.drew := ⟨_, rfl⟩
  have hB0 : Below wc.heap.size wc v0 := by rw [hv0]; exact Di.drewN_below (w := wc) ⟨1, rfl⟩
  have HF0 : Hid (v0.heap[fb]? = some (.cells R 96)) := (hB0.block _ (lt_of_heap HFr.out)).trans HFr.out;have HZ0 : Hid (v0.heap[zb]? = some (.cells (reR Ou.zero) 38)) := (hB0.block _ (lt_of_heap HZc.out)).trans HZc.out;have HA1 : Hid (UnAt v0 L U') := HAc.out.below hB0;have HU1 : Hid (UT L.lo w v0) := ((UT.of_below HB0.out).trans HUc.out).trans (UT.of_below hB0);refine wp_region_held_drew (S := fun w' => w'.rangeAt fb 0 [.int .i64 on, .int .i64 oe, Pp.tx od, .int .i64 oa, .int .i64 ob] ∧ w'.cell? ⟨fb, 5, none⟩ = some (Pp.tx oo) ∧ w'.cell? ⟨fb, 6, none⟩ = some (.int .i64 ok) ∧ w'.cell? ⟨fb, 7, none⟩ = some (.bool ow)) (by kernel_rfl) (by rw [← hv0]; exact hS _ HF0.out) (fun hHeld => ?_);refine tkz [0] ?_
  iterate 1
   refine tkq (v := ?_) rfl (Or.inl ⟨by kernel_rfl, ?_⟩) ?_
   rotate_left
   ·(intro w hSw; (try dsimp only at hSw); go_simp) <;> with_reducible rfl
   (try simp only [Act.put, lq])
  refine tkw ?_;refine tkv 1 (.agg ([Value.int .i64 on, .int .i64 oe, Pp.tx od, .int .i64 oa, .int .i64 ob]).toArray) rfl (yieldsIf_load_mid (by kernel_rfl) 38 _ rfl fb 0 rfl ([Value.int .i64 on, .int .i64 oe, Pp.tx od, .int .i64 oa, .int .i64 ob]) _ (fun w hw => hw.1) Tryz.underlying38 rfl (reSize)) ?_
  (try simp only [Act.put, lq])
  refine tkz [2, 3, 4, 5, 6, 7] ?_
  iterate 6
   refine tkq (v := ?_) rfl (Or.inl ⟨by kernel_rfl, ?_⟩) ?_
   rotate_left
   ·(intro w hSw; (try dsimp only at hSw); go_simp) <;> with_reducible rfl
   (try simp only [Act.put, lq])
  refine tkw ?_;rw [← hv0];clear hv0 hB0
  refine rdy 8 rfl fun K hK => ?_
  refine step_store_row rfl 38 (.tmp 10) (.tmp 29) rfl zb #[.int .i64 on, .int .i64 oe, Pp.tx od, .int .i64 oa, .int .i64 ob] rfl rfl 38 (reR Ou.zero) HZ0.out reSize rfl (by simp [Value.oneCell']) ?_;have HQ : Hid ((v0.setRow zb #[.int .i64 on, .int .i64 oe, Pp.tx od, .int .i64 oa, .int .i64 ob]).heap[zb]? = some (.cells #[.int .i64 on, .int .i64 oe, Pp.tx od, .int .i64 oa, .int .i64 ob] 38)) := setRow_heap _ zb _ _ _ _ HZ0.out;have HF : Hid (UnAt (v0.setRow zb #[.int .i64 on, .int .i64 oe, Pp.tx od, .int .i64 oa, .int .i64 ob]) L U' ∧ UT L.lo w (v0.setRow zb #[.int .i64 on, .int .i64 oe, Pp.tx od, .int .i64 oa, .int .i64 ob])) := ⟨HA1.out.row HZ0.out rfl (by decide) (by decide), HU1.out.far (by rw [HZb.out]; omega)⟩;refine hK.out _ _ (hS _ ((setRow_other _ _ _ _ HNe.out).trans HF0.out)) (fun hHeld => ?_);clear hK K
  (try simp only [Act.put, lq])
  refine tkz [9, 10, 11] ?_
  iterate 3
   refine tkq (v := ?_) rfl (Or.inl ⟨by kernel_rfl, ?_⟩) ?_
   rotate_left
   ·(intro w hSw; (try dsimp only at hSw); go_simp) <;> with_reducible rfl
   (try simp only [Act.put, lq])
  refine tkw ?_;refine wpAnyH_done (by kernel_rfl) ?_ _;clear hS
  go_wp2_with fail
  exact bodyPost_ret (results_cttt rfl _ _ zb #[.int .i64 on, .int .i64 oe, Pp.tx od, .int .i64 oa, .int .i64 ob] (0, 0) _ rfl HQ.out Tryz.underlying38 rfl reSize) rfl ⟨rfl, HF.out⟩
theorem beq_nil_of {l : List UInt8} (h : l ≠ []) : ((⟨l.toArray⟩ : ByteArray) == ⟨#[]⟩) = false := by
 cases l with
 | nil => exact absurd rfl h
 | cons a t => rfl
def rpO (U : Un) (id n : Int) : Ou := if Pp.taT U.P id n = [] ∧ opB U.F 4 id = true then Ou.wait else Ou.got (Pp.taT U.P id n)
def rpU (U : Un) (id n : Int) : Un := ⟨U.F, Pp.taS U.P id n, U.S, U.T⟩
theorem readPipe_at {w : World} {L : Pl} {U : Un} (h : UnAt w L U) (s : Value) (pid : Int) (x : Cl) (i : List UInt8) (id n : Int) (hn : 0 < n) :
  Calls Tryz.prog 152 #[.agg (tkR L.c s pid x i), .agg #[.int .i64 id], .int .i64 n] w (Left L (rpO U id n) (rpU U id n) w) := by
 unfold Left;have hn0 : decide (n = 0) = false := decide_eq_false (by omega)
 have hn1 : (n == 0) = false := by simp; omega
 obtain ⟨WK, WX, WZ, hWK, hWX, hWZ, hB, hyK, hyX, hyZ⟩ := blk3 w (tkR L.c s pid x i) 99 #[.int .i64 id] 267 (ouR Ou.zero) 96;have HA0 : Hid (UnAt WZ L U) := h.below hB;have HB0 := hid hB;have hz : (#[.int .i64 0, .int .i64 0, .string ⟨#[]⟩, .int .i64 0, .int .i64 0, .string ⟨#[]⟩, .int .i64 0, .bool false] : Array Value) = ouR Ou.zero := rfl;obtain ⟨kb, hKb⟩ : ∃ k, k = w.heap.size := ⟨_, rfl⟩;rw [← hKb] at hyK;have HK := hid hyK;have HKb := hid hKb;have HWK : Hid _ := hWK;obtain ⟨xb, hXb⟩ : ∃ k, k = w.heap.size + 1 := ⟨_, rfl⟩;rw [← hXb] at hyX;have HX := hid hyX;have HXb := hid hXb;have HWX : Hid _ := hWX;obtain ⟨zb, hZb⟩ : ∃ k, k = w.heap.size + 1 + 1 := ⟨_, rfl⟩;rw [← hZb] at hyZ;have HZ := hid hyZ;have HZb := hid hZb;have HWZ : Hid _ := hWZ;have HU := hid h;clear hWK hKb hWX hXb hWZ hZb hB h;obtain ⟨cc, hcc⟩ : ∃ c, c = L.c := ⟨_, rfl⟩;obtain ⟨pp, hpp⟩ : ∃ c, c = L.p := ⟨_, rfl⟩;rw [← hcc] at HK hyK HWK ⊢;have Hcc := hid hcc
 have hs0 : (fun w' : World => w'.cell? ⟨kb, 0, none⟩ = some (ptr cc) ∧ w'.cell? ⟨cc, 1, none⟩ = some (ptr pp) ∧ w'.cell? ⟨xb, 0, none⟩ = some (.int .i64 id)) WZ := by
  refine ⟨by rw [cell_of_heap HK.out]; rfl, ?_, by rw [cell_of_heap HX.out]; rfl⟩;rw [hcc, hpp];exact HA0.out.cell1
 have hT := fun q => Pp.take_at L.p U.P id n (WZ.drewN q) (HA0.out.below (Di.drewN_below (w := WZ) ⟨q, rfl⟩)).pipes
 rw [← hpp] at hT;have Hpp := hid hpp;obtain ⟨T, hT0⟩ : ∃ T, T = Pp.taT U.P id n := ⟨_, rfl⟩;rw [← hT0] at hT;obtain ⟨o, ho⟩ : ∃ o, o = rpO U id n := ⟨_, rfl⟩;rw [← ho]
 have HO : Hid (o = if T = [] ∧ opB U.F 4 id = true then Ou.wait else Ou.got T) := by rw [ho, hT0]; exact rfl
 obtain ⟨U', hU'⟩ : ∃ V, V = rpU U id n := ⟨_, rfl⟩;rw [← hU'];have HU' := hid hU';have HT0 := hid hT0;obtain ⟨R, hR⟩ : ∃ R, R = ouR o := ⟨_, rfl⟩
 have HRs : Hid (R.size = 8) := by rw [hR]; exact ouR_size _
 have HOne : Hid (R.all (·.oneCell') = true) := by rw [hR]; exact ouR_one _
 rw [← hR];have HRq := hid hR;clear hyK hyX hyZ hcc hpp hT0 ho hU' hn hR
 go_enter Tryz.func152, Tryz.ntmps152
 go_wp2_with fail
 rw [← HWK.out, ← HWX.out, ← HWZ.out];rw [← HZb.out];rw [← HXb.out];rw [← HKb.out];refine wp_region_held_drew (S := fun w' => w'.cell? ⟨kb, 0, none⟩ = some (ptr cc) ∧ w'.cell? ⟨cc, 1, none⟩ = some (ptr pp) ∧ w'.cell? ⟨xb, 0, none⟩ = some (.int .i64 id)) (by kernel_rfl) hs0 (fun hHeld => ?_);refine tkz [0, 1, 2, 3, 4, 5, 6, 7] ?_
 iterate 8
  refine tkq (v := ?_) rfl (Or.inl ⟨by kernel_rfl, ?_⟩) ?_
  rotate_left
  ·(intro w hSw; (try dsimp only at hSw); go_simp) <;> with_reducible rfl
  (try simp only [Act.put, lq])
 refine tkw ?_
 refine rdy 8 rfl fun K hK => ?_
 go_simp;refine (hT 1).mono ?_;rintro e w2 ⟨rfl, hp2, hu2⟩;obtain ⟨h2a, h2u⟩ := (HA0.out.below (Di.drewN_below (w := WZ) ⟨1, rfl⟩)).putP (by rw [← Hpp.out]; exact hu2) (by rw [← Hpp.out]; exact hp2)
 have HA2 : Hid (UnAt w2 L U') := by rw [HU'.out]; exact h2a
 have HU2 : Hid (UT L.lo w w2) := ((UT.of_below HB0.out).trans (UT.of_below (Di.drewN_below (w := WZ) ⟨1, rfl⟩))).trans h2u;have hk2 := h2u.other HK.out rfl;have hx2 := h2u.other HX.out rfl;have HZ2 : Hid (w2.heap[zb]? = some (.cells (ouR Ou.zero) 96)) := h2u.other HZ.out rfl
 have hs2 : (fun w' : World => w'.cell? ⟨kb, 0, none⟩ = some (ptr cc) ∧ w'.cell? ⟨cc, 1, none⟩ = some (ptr pp) ∧ w'.cell? ⟨xb, 0, none⟩ = some (.int .i64 id)) w2 := by
  refine ⟨by rw [cell_of_heap hk2]; rfl, ?_, by rw [cell_of_heap hx2]; rfl⟩;rw [Hcc.out, Hpp.out];exact HA2.out.cell1
 have hO := isOpen_at HA2.out 4 id
 have hob : opB U'.F 4 id = opB U.F 4 id := by rw [HU'.out]; rfl
 rw [← Hcc.out, hob] at hO;have hc1 := hs2.1;have hc3 := hs2.2.2;clear hp2 hu2 h2a h2u hk2 hx2 hs0 hob hT;refine hK.out _ _ hs2 (fun hHeld => ?_);clear hK K
 (try simp only [Act.put, lq])
 refine tkz [9] ?_
 iterate 1
  refine tkq (v := ?_) rfl (Or.inl ⟨by kernel_rfl, ?_⟩) ?_
  rotate_left
  ·(intro w hSw; (try dsimp only at hSw); go_simp) <;> with_reducible rfl
  (try simp only [Act.put, lq])
 refine tkw ?_;refine wpAnyH_done (by kernel_rfl) ?_ _;clear hHeld hs2
 (try dsimp only at hc1 hc3)
 by_cases ht : T = []
 ·subst ht
  generalize opB U.F 4 id = ob at *
  cases ob with
  | true =>
   have hoo : o = Ou.wait := by rw [HO.out]; rfl
   have hN := mustWait_at
   have e1 : ouR Ou.wait = R := by rw [HRq.out, hoo]
   rw [e1] at hN;clear e1 hoo HO
   go_wp2_with fail
   refine hO.mono ?_;rintro e w3 ⟨rfl, hb3⟩;have HB3 := hid hb3;clear hO hb3
   go_wp2_with fail
   refine (hN _).mono ?_;rintro e w4 ⟨rfl, hb4⟩;have HB4 : Hid (Below w2.heap.size w2 w4) := HB3.out.trans (hb4.mono HB3.out.size);have HA1 : Hid (UnAt w4 L U') := HA2.out.below HB4.out;have HU1 : Hid (UT L.lo w w4) := HU2.out.trans (UT.of_below HB4.out);clear hN hb4;have HM : Hid (w4.heap[zb]? = some (.cells (ouR Ou.zero) 96)) := (HB4.out.block _ (lt_of_heap HZ2.out)).trans HZ2.out;have HQ : Hid ((w4.setRow zb R).heap[zb]? = some (.cells R 96)) := setRow_heap _ zb _ _ _ _ HM.out;have HF : Hid (UnAt (w4.setRow zb R) L U' ∧ UT L.lo w (w4.setRow zb R)) := ⟨HA1.out.row HM.out rfl (by decide) (by decide), HU1.out.far (by rw [HZb.out]; omega)⟩
   go_wp2_with (first
     | (refine wpList_store_row rfl 96 _ _ rfl zb R rfl rfl 96 (ouR Ou.zero) HM.out (by rw [HRs.out]; exact ouSize) (by rw [HRs.out]; rfl) HOne.out ?_)
     | go_in)
   exact bodyPost_ret (v := .agg R) (results_cell_row rfl _ _ zb 96 R (0, 0) _ rfl HQ.out Tryz.underlying96 rfl (by rw [HRs.out]; exact ouSize)) rfl ⟨rfl, HF.out⟩
  | false =>
   have hoo : o = Ou.got [] := by rw [HO.out]; rfl
   have hN := got_at []
   have e1 : ouR (Ou.got []) = R := by rw [HRq.out, hoo]
   rw [e1] at hN;clear e1 hoo HO
   go_wp2_with fail
   refine hO.mono ?_;rintro e w3 ⟨rfl, hb3⟩;have HB3 := hid hb3;clear hO hb3
   go_wp2_with fail
   refine (hN _).mono ?_;rintro e w4 ⟨rfl, hb4⟩;have HB4 : Hid (Below w2.heap.size w2 w4) := HB3.out.trans (hb4.mono HB3.out.size);have HA1 : Hid (UnAt w4 L U') := HA2.out.below HB4.out;have HU1 : Hid (UT L.lo w w4) := HU2.out.trans (UT.of_below HB4.out);clear hN hb4;have HM : Hid (w4.heap[zb]? = some (.cells (ouR Ou.zero) 96)) := (HB4.out.block _ (lt_of_heap HZ2.out)).trans HZ2.out;have HQ : Hid ((w4.setRow zb R).heap[zb]? = some (.cells R 96)) := setRow_heap _ zb _ _ _ _ HM.out;have HF : Hid (UnAt (w4.setRow zb R) L U' ∧ UT L.lo w (w4.setRow zb R)) := ⟨HA1.out.row HM.out rfl (by decide) (by decide), HU1.out.far (by rw [HZb.out]; omega)⟩
   go_wp2_with (first
     | (refine wpList_store_row rfl 96 _ _ rfl zb R rfl rfl 96 (ouR Ou.zero) HM.out (by rw [HRs.out]; exact ouSize) (by rw [HRs.out]; rfl) HOne.out ?_)
     | go_in)
   exact bodyPost_ret (v := .agg R) (results_cell_row rfl _ _ zb 96 R (0, 0) _ rfl HQ.out Tryz.underlying96 rfl (by rw [HRs.out]; exact ouSize)) rfl ⟨rfl, HF.out⟩
 ·have hoo : o = Ou.got T := by rw [HO.out, if_neg (fun q => ht q.1)]
  have hN := got_at T;have hne := beq_nil_of ht
  have e1 : ouR (Ou.got T) = R := by rw [HRq.out, hoo]
  rw [e1] at hN;clear e1 hoo HO hO
  go_wp2_with fail
  refine (hN _).mono ?_;rintro e w4 ⟨rfl, hb4⟩;have HB4 := hid hb4;have HA1 : Hid (UnAt w4 L U') := HA2.out.below HB4.out;have HU1 : Hid (UT L.lo w w4) := HU2.out.trans (UT.of_below HB4.out);clear hN hb4;have HM : Hid (w4.heap[zb]? = some (.cells (ouR Ou.zero) 96)) := (HB4.out.block _ (lt_of_heap HZ2.out)).trans HZ2.out;have HQ : Hid ((w4.setRow zb R).heap[zb]? = some (.cells R 96)) := setRow_heap _ zb _ _ _ _ HM.out;have HF : Hid (UnAt (w4.setRow zb R) L U' ∧ UT L.lo w (w4.setRow zb R)) := ⟨HA1.out.row HM.out rfl (by decide) (by decide), HU1.out.far (by rw [HZb.out]; omega)⟩
  go_wp2_with (first
    | (refine wpList_store_row rfl 96 _ _ rfl zb R rfl rfl 96 (ouR Ou.zero) HM.out (by rw [HRs.out]; exact ouSize) (by rw [HRs.out]; rfl) HOne.out ?_)
    | go_in)
  exact bodyPost_ret (v := .agg R) (results_cell_row rfl _ _ zb 96 R (0, 0) _ rfl HQ.out Tryz.underlying96 rfl (by rw [HRs.out]; exact ouSize)) rfl ⟨rfl, HF.out⟩
end Go.Proofs.YtinaeifpoljfoaaGreatDoor
