/- Package fscore over the disk: what is asked from outside: Create, Mkdir, Unlink, Link, Close. -/
/- Package fscore over the disk: Create, Mkdir, Unlink, Link, Close. -/
import Derived.Test.YtcjpahnlckfgoaaGreatDoorFsFG
namespace Go.Proofs.YtcjpahnlckfgoaaGreatDoor
open Go.RowKit
set_option linter.unusedVariables false

/-- What a closure does on the draft of a file system. -/
def FDo (S : Sto) (n m o : Nat) (er : Int) (F' : FS) (Q : Nat → Prop) (Rok : World → Prop) (W : World) : Ending → World → Prop := fun e w' =>
  (er = 0 ∧ e = .returned (.tuple #[]) ∧ SU o Q W w' ∧ Fs w' S F' m ∧ Rok w') ∨ ((er != 0) = true ∧ e = .panicked (pan er) ∧ SU o Q W w' ∧ ∃ ws, Dk w' S n ws m)
theorem dft_len {S : Sto} {lo d n m : Nat} {vs ws : List Int} {w : World} (h : Dk w (dft S lo d vs) n ws m) : vs.length = n * 32 := (dft_under h).len
theorem attempt_fs {w : World} {lo B G m m' N : Nat} {F F' : FS} {er : Int} {caps : Array Value} {Q : Nat → Prop} {Rok : World → Prop}
    (h : Fs w (dsk lo B G) F m) (hmm : m ≤ m') (hm : m' ≤ 900000000000) (hQ : ∀ k, Q k → k < w.heap.size)
    (hcf : ∀ (args : Array Value) (W : World), (callFunc N args).run Tryz.prog W = .ok (.enter N args) W)
    (hK : ∀ w1 w2, ST lo w1 w2 → Rok w1 → Rok w2)
    (hK2 : ∀ w1 c cs v, w.heap.size ≤ c → w1.heap[c]? = some (Obj.cells cs 40) → Rok w1 → Rok (w1.setCell ⟨c, 0, none⟩ v))
    (hdo : ∀ W d vs, Below w.heap.size w W → w.heap.size ≤ d → Fs W (dft (dsk lo B G) lo d vs) F m → Calls Tryz.prog N (#[.iface 146 (ptr d)] ++ caps) W (FDo (dft (dsk lo B G) lo d vs) F.n m' lo er F' Q Rok W)) :
    Calls Tryz.prog 43 #[sto (dsk lo B G), .func (.func N) #[] caps] w fun e w' => e = .returned (.int .i64 er) ∧ SU lo Q w w' ∧ Fs w' (dsk lo B G) (if er = 0 then F' else F) (m' + 1024) ∧ (er = 0 → Rok w') := by
  obtain ⟨vs, h⟩ := h
  refine (attempt_at (Rok := fun ws w1 => er = 0 ∧ Holds ws F' ∧ FInv F' ∧ F'.n = F.n ∧ Rok w1) (Re := fun e => e = er ∧ er ≠ 0) h.disk h.inv.n2 hmm hm hQ hcf
    (fun ws w1 w2 hs hr => ⟨hr.1, hr.2.1, hr.2.2.1, hr.2.2.2.1, hK w1 w2 hs hr.2.2.2.2⟩) (fun ws w1 c cs v hc h1 hr => ⟨hr.1, hr.2.1, hr.2.2.1, hr.2.2.2.1, hK2 w1 c cs v hc h1 hr.2.2.2.2⟩) (fun W d hb hd hk => ?_)).mono ?_
  · refine (hdo W d vs hb hd ⟨vs, hk, h.hold, h.inv⟩).mono ?_
    rintro e w' (⟨h0, rfl, hsu, ⟨ws, hf⟩, hr⟩ | ⟨h0, rfl, hsu, hws⟩)
    · have e1 := dft_len hk
      have e2 := dft_len hf.disk
      have en : F'.n = F.n := by omega
      have hd2 := hf.disk
      rw [en] at hd2
      exact Or.inl ⟨rfl, hsu, ws, hd2, h0, hf.hold, hf.inv, en, hr⟩
    · exact Or.inr ⟨er, rfl, hsu, hws, rfl, by simpa using h0⟩
  · rintro e w' (⟨rfl, hsu, ws, hd, h0, hH, hI, hn, hr⟩ | ⟨er', rfl, hsu, hd, rfl, h0⟩)
    · rw [h0, if_pos rfl]
      refine ⟨rfl, hsu, ⟨ws, by rw [hn]; exact hd, hH, hI⟩, fun _ => hr⟩
    · rw [if_neg h0]
      exact ⟨rfl, hsu, ⟨vs, hd, h.hold, h.inv⟩, fun x => absurd x h0⟩
/-- One cell in a block of its own. -/
abbrev Bx (w : World) (c : Nat) (v : Value) (t : TypeId) : Prop := w.heap[c]? = some (.cells #[v] t)
theorem Bx.cell {w : World} {c : Nat} {v : Value} {t : TypeId} (h : Bx w c v t) : w.cell? ⟨c, 0, none⟩ = some v := by rw [cell_of_heap h]; rfl
theorem Bx.put {w : World} {c : Nat} {v x : Value} {t : TypeId} (h : Bx w c v t) : Bx (w.setCell ⟨c, 0, none⟩ x) c x t := by
  unfold Bx
  rw [setCell_eq_setRow w c 0 _ _ _ _ h, setRow_heap w c _ _ _ _ h]
  rfl
theorem Bx.below {w w' : World} {c : Nat} {v : Value} {t : TypeId} (h : Bx w c v t) (hb : Below w.heap.size w w') : Bx w' c v t := (hb.block _ (lt_of_heap h)).trans h
theorem bx_lt {w : World} {c : Nat} {v : Value} {t : TypeId} (h : Bx w c v t) : c < w.heap.size := lt_of_heap h
section
variable {w w' : World} {m : Nat} {S : Sto} {F : FS}
set_option maxHeartbeats 1000000 in
set_option maxRecDepth 100000 in
theorem create1_at (h : Fs w S F m) (hA : AllD F) (hm : m ≤ 600000000000) (p : List UInt8) (hp : p.length ≤ 9223372036854775807) {b1 b2 : Nat} (h1 : Bx w b1 (tx p) 9) (h2 : Bx w b2 (.int .i64 0) 3) :
    Calls Tryz.prog 55 #[sto S, ptr b1, ptr b2] w (FDo S F.n (m + 250000) S.lo (crR F p) (crF F p) (fun k => k = b2) (fun w' => Bx w' b2 (.int .i64 (crI F p)) 3) w) := by
  have hC := fcreate_at h hA hm p hp
  have c1 := h1.cell
  have H2 : Hid (Bx w b2 (.int .i64 0) 3) := h2
  generalize crF F p = F' at *
  generalize crR F p = er at *
  generalize crI F p = ci at *
  clear h hA h1 h2
  go_enter Tryz.func55, Tryz.ntmps55
  go_wp2_with fail
  refine hC.mono ?_
  rintro e w2 (⟨h0, rfl, hf, hbg⟩ | ⟨h0, rfl, hws, hbg⟩)
  · have h2 := hbg.other H2.out (by decide)
    have c2 := cell_of_heap (cs := _) h2 (i := 0)
    have f2 : w2.frozen? ⟨b2, 0, none⟩ = false := frozen_of_heap h2
    have HE : Hid (SU S.lo (fun k => k = b2) w (w2.setCell ⟨b2, 0, none⟩ (.int .i64 ci)) ∧ Fs (w2.setCell ⟨b2, 0, none⟩ (.int .i64 ci)) S F' (m + 250000) ∧ Bx (w2.setCell ⟨b2, 0, none⟩ (.int .i64 ci)) b2 (.int .i64 ci) 3) := ⟨SU.trans (SU.any hbg) (SU.of_upd (Upd.setCell _ _ _ _) rfl), hf.keep (fun k hk => (Upd.setCell b2 0 w2 _).block k hk.lt (fun e => not_isSt h2 (by decide) (by rw [← e]; exact hk))), Bx.put h2⟩
    have c2' : w2.cell? ⟨b2, 0, none⟩ = some (.int .i64 0) := Bx.cell h2
    clear hC hf hbg h2 c2
    go_wp2
    go_end0
    exact Or.inl ⟨h0, rfl, HE.out⟩
  · have HK : Hid ((er != 0) = true) := h0
    have HE : Hid (SU S.lo (fun k => k = b2) w w2 ∧ ∃ ws, Dk w2 S F.n ws (m + 250000)) := ⟨SU.any hbg, hws⟩
    clear hC hws hbg h0
    go_wp2
    exact ⟨rfl, Or.inr ⟨HK.out, rfl, HE.out⟩⟩
set_option maxHeartbeats 1000000 in
set_option maxRecDepth 100000 in
theorem mkdir1_at (h : Fs w S F m) (hA : AllD F) (hm : m ≤ 600000000000) (p : List UInt8) (hp : p.length ≤ 9223372036854775807) {b1 : Nat} (h1 : Bx w b1 (tx p) 9) :
    Calls Tryz.prog 80 #[sto S, ptr b1] w (FDo S F.n (m + 250000) S.lo (mkR F p) (mkF F p) (fun _ => False) (fun _ => True) w) := by
  have hC := fmkdir_at h hA hm p hp
  have c1 := h1.cell
  generalize mkF F p = F' at *
  generalize mkR F p = er at *
  clear h h1
  go_enter Tryz.func80, Tryz.ntmps80
  go_wp2_with fail
  refine hC.mono ?_
  rintro e w2 (⟨h0, rfl, hf, hbg⟩ | ⟨h0, rfl, hws, hbg⟩)
  · have HE : Hid (SU S.lo (fun _ => False) w w2 ∧ Fs w2 S F' (m + 250000) ∧ True) := ⟨hbg, hf, trivial⟩
    have HK : Hid (er = 0) := h0
    clear hC hf hbg h0
    go_wp2
    go_end0
    exact Or.inl ⟨HK.out, rfl, HE.out⟩
  · have HK : Hid ((er != 0) = true) := h0
    have HE : Hid (SU S.lo (fun _ => False) w w2 ∧ ∃ ws, Dk w2 S F.n ws (m + 250000)) := ⟨hbg, hws⟩
    clear hC hws hbg h0
    go_wp2
    exact ⟨rfl, Or.inr ⟨HK.out, rfl, HE.out⟩⟩
set_option maxHeartbeats 1000000 in
set_option maxRecDepth 100000 in
theorem unlink1_at (h : Fs w S F m) (hA : AllD F) (hm : m ≤ 600000000000) (h00 : isD F 0 = true) (p : List UInt8) (hp : p.length ≤ 9223372036854775807) (hN : (walkR F p).2 = 0 → isD F (walkR F p).1 = false → Named F (walkR F p).1.toNat) {v : Value} {os : List Int} (ho : OpIn w v os) {b1 b2 : Nat} (h1 : Bx w b1 (tx p) 9) (h2 : Bx w b2 (v) 27) :
    Calls Tryz.prog 64 #[sto S, ptr b1, ptr b2] w (FDo S F.n (m + 500000) S.lo (ulR F p) (ulF F p os) (fun _ => False) (fun _ => True) w) := by
  have hC := funlink_at h hA h00 hm p hp hN ho
  have c1 := h1.cell
  have c2 := h2.cell
  generalize ulF F p os = F' at *
  generalize ulR F p = er at *
  clear h h1 h2
  go_enter Tryz.func64, Tryz.ntmps64
  go_wp2_with fail
  refine hC.mono ?_
  rintro e w2 (⟨h0, rfl, hf, hbg⟩ | ⟨h0, rfl, hws, hbg⟩)
  · have HE : Hid (SU S.lo (fun _ => False) w w2 ∧ Fs w2 S F' (m + 500000) ∧ True) := ⟨hbg, hf, trivial⟩
    have HK : Hid (er = 0) := h0
    clear hC hf hbg h0
    go_wp2
    go_end0
    exact Or.inl ⟨HK.out, rfl, HE.out⟩
  · have HK : Hid ((er != 0) = true) := h0
    have HE : Hid (SU S.lo (fun _ => False) w w2 ∧ ∃ ws, Dk w2 S F.n ws (m + 500000)) := ⟨hbg, hws⟩
    clear hC hws hbg h0
    go_wp2
    exact ⟨rfl, Or.inr ⟨HK.out, rfl, HE.out⟩⟩
set_option maxHeartbeats 1000000 in
set_option maxRecDepth 100000 in
theorem link1_at (h : Fs w S F m) (hA : AllD F) (hm : m ≤ 600000000000) (a b : List UInt8) (ha : a.length ≤ 9223372036854775807) (hb : b.length ≤ 9223372036854775807) (hN : (walkR F a).2 = 0 → isD F (walkR F a).1 = false → Named F (walkR F a).1.toNat) {b1 b2 : Nat} (h1 : Bx w b1 (tx a) 9) (h2 : Bx w b2 (tx b) 9) :
    Calls Tryz.prog 57 #[sto S, ptr b1, ptr b2] w (FDo S F.n (m + 500000) S.lo (lnR F a b) (lnF F a b) (fun _ => False) (fun _ => True) w) := by
  have hC := flink_at h hA hm a b ha hb hN
  have c1 := h1.cell
  have c2 := h2.cell
  generalize lnF F a b = F' at *
  generalize lnR F a b = er at *
  clear h h1 h2
  go_enter Tryz.func57, Tryz.ntmps57
  go_wp2_with fail
  refine hC.mono ?_
  rintro e w2 (⟨h0, rfl, hf, hbg⟩ | ⟨h0, rfl, hws, hbg⟩)
  · have HE : Hid (SU S.lo (fun _ => False) w w2 ∧ Fs w2 S F' (m + 500000) ∧ True) := ⟨hbg, hf, trivial⟩
    have HK : Hid (er = 0) := h0
    clear hC hf hbg h0
    go_wp2
    go_end0
    exact Or.inl ⟨HK.out, rfl, HE.out⟩
  · have HK : Hid ((er != 0) = true) := h0
    have HE : Hid (SU S.lo (fun _ => False) w w2 ∧ ∃ ws, Dk w2 S F.n ws (m + 500000)) := ⟨hbg, hws⟩
    clear hC hws hbg h0
    go_wp2
    exact ⟨rfl, Or.inr ⟨HK.out, rfl, HE.out⟩⟩
end
end Go.Proofs.YtcjpahnlckfgoaaGreatDoor

namespace Go.Proofs.YtcjpahnlckfgoaaGreatDoor
open Go.RowKit
set_option linter.unusedVariables false

section
variable {w w' : World} {m : Nat} {S : Sto} {F : FS}
set_option maxHeartbeats 1000000 in
set_option maxRecDepth 100000 in
theorem close1_at (h : Fs w S F m) (hm : m ≤ 600000000000) (i : Nat) (hi : i < 32) (h0 : (F.ino 0).kind = 2) {b1 : Nat} (h1 : Bx w b1 (.int .i64 (i : Int)) 3) :
    Calls Tryz.prog 69 #[sto S, ptr b1] w (FDo S F.n (m + 15000) S.lo 0 (clF F i) (fun _ => False) (fun _ => True) w) := by
  have hC := fclose_file h hm i hi h0
  have c1 := h1.cell
  generalize clF F i = F' at *
  clear h h1 h0
  go_enter Tryz.func69, Tryz.ntmps69
  go_wp2_with fail
  refine hC.mono ?_
  rintro e w2 ⟨rfl, hf, hbg⟩
  have HE : Hid (SU S.lo (fun _ => False) w w2 ∧ Fs w2 S F' (m + 15000) ∧ True) := ⟨hbg, hf, trivial⟩
  clear hC hf hbg
  go_wp2
  go_end0
  exact Or.inl ⟨rfl, rfl, HE.out⟩
theorem SU.drop {lo : Nat} {Q : Nat → Prop} {w W w' : World} (hb : Below w.heap.size w W) (h : SU lo Q W w') (hq : ∀ k, Q k → w.heap.size ≤ k) : ST lo w w' := ⟨h.os.trans hb.os, h.tape.trans hb.tape, h.output.trans hb.output, Nat.le_trans hb.size h.size, fun k hk hs _ => (h.block k (Nat.lt_of_lt_of_le hk hb.size) (hs.imp id (fun x y => x ((isSt_same (hb.block k hk)).1 y))) (fun q => by have := hq k q; omega)).trans (hb.block k hk)⟩
end
section
variable {w w' : World} {m lo B G : Nat} {F : FS}
theorem crn_call (args : Array Value) (W : World) : (callFunc 55 args).run Tryz.prog W = .ok (.enter 55 args) W := by kernel_rfl
set_option maxHeartbeats 1000000 in
set_option maxRecDepth 100000 in
theorem Create_at (h : Fs w (dsk lo B G) F m) (hA : AllD F) (hm : m ≤ 600000000000) (p : List UInt8) (hp : p.length ≤ 9223372036854775807) :
    Calls Tryz.prog 21 #[sto (dsk lo B G), tx p] w fun e w' => e = .returned (.tuple #[.int .i64 (if crR F p = 0 then crI F p else 0), .int .i64 (crR F p)]) ∧ Fs w' (dsk lo B G) (if crR F p = 0 then crF F p else F) (m + 260000) ∧ ST lo w w' := by
  have hmf : ∀ (fn : Fn) (first cap : Array Value) (w : World), (Instr.makeFunc fn first cap).run Tryz.prog w = .ok (.func fn first cap) w := fun _ _ _ _ => rfl
  obtain ⟨W1, hW1⟩ : ∃ W, W = w.alloc (.cells #[tx p] 9) := ⟨_, rfl⟩
  have hb1 : Below w.heap.size w W1 := by rw [hW1]; exact below_alloc _ _
  have hx1 : Bx W1 w.heap.size (tx p) 9 := by rw [hW1]; exact heap_alloc_new _ _
  obtain ⟨W2, hW2⟩ : ∃ W, W = W1.alloc (.cells #[.int .i64 0] 3) := ⟨_, rfl⟩
  have hb2 : Below W1.heap.size W1 W2 := by rw [hW2]; exact below_alloc _ _
  have hx2 : Bx W2 W1.heap.size (.int .i64 0) 3 := by rw [hW2]; exact heap_alloc_new _ _
  have hx12 := hx1.below hb2
  have hB : Below w.heap.size w W2 := hb1.trans (hb2.mono hb1.size)
  obtain ⟨b1, hb1'⟩ : ∃ b, b = w.heap.size := ⟨_, rfl⟩
  have hs1 : W1.heap.size = w.heap.size + 1 := by rw [hW1]; simp
  obtain ⟨b2, hb2'⟩ : ∃ b, b = w.heap.size + 1 := ⟨_, rfl⟩
  rw [← hb1'] at hx12
  rw [hs1, ← hb2'] at hx2
  have hC := attempt_fs (caps := #[ptr b1, ptr b2]) (Q := fun k => k = b2) (Rok := fun w' => Bx w' b2 (.int .i64 (crI F p)) 3) (h.below hB) (m' := m + 250000) (by omega) (by omega) (fun k hk => by rw [hk]; exact bx_lt hx2) crn_call (fun w1 w2 hs hr => hs.other hr (by decide)) (fun w1 c cs v hc h1 hr => by
      unfold Bx at hr ⊢
      have hne : b2 ≠ c := by have := bx_lt hx2; omega
      exact (Below.heap_setCell _ _ _ _ hne).trans hr) (fun W d vs hb hd hf => create1_at hf hA hm p hp (hx12.below hb) (hx2.below hb))
  have HB : Hid (Below w.heap.size w W2) := hB
  have hX : w.heap.size ≤ b2 := by omega
  have HX : Hid (w.heap.size ≤ b2) := hX
  have HW1 : Hid _ := hW1
  have HW2 : Hid _ := hW2
  have H1' : Hid (b1 = w.heap.size) := hb1'
  have H2' : Hid (b2 = w.heap.size + 1) := hb2'
  generalize crF F p = F' at *
  generalize crR F p = er at *
  generalize crI F p = ci at *
  obtain ⟨FF, hFF⟩ : ∃ x, x = (if er = 0 then F' else F) := ⟨_, rfl⟩
  obtain ⟨ri, hri⟩ : ∃ x, x = (if er = 0 then ci else 0) := ⟨_, rfl⟩
  rw [← hFF] at hC ⊢
  rw [← hri]
  have HRi : Hid (ri = (if er = 0 then ci else 0)) := hri
  clear h hA hX hFF hri hs1 hb1 hb2 hx1 hx2 hx12 hB hb1' hb2' hW1 hW2
  go_enter Tryz.func21, Tryz.ntmps21
  go_wp2_with fail
  rw [← HW1.out, ← HW2.out, ← H2'.out, ← H1'.out]
  refine hC.mono ?_
  rintro e w3 ⟨rfl, hsu, hf, hr⟩
  have HST : Hid (ST lo w w3) := SU.drop HB.out hsu (fun k hk => by rw [hk]; exact HX.out)
  have HF : Hid (Fs w3 (dsk lo B G) FF (m + 260000)) := hf.mono (by omega)
  by_cases h0 : er = 0
  · have c3 := (hr h0).cell
    have hri : ri = ci := by rw [HRi.out, if_pos h0]
    subst h0
    subst hri
    clear hC hsu hf hr HRi
    go_wp2
    go_ret2
    exact ⟨rfl, HF.out, HST.out⟩
  · have hn := ne_bool h0
    have hri : ri = 0 := by rw [HRi.out, if_neg h0]
    subst hri
    clear hC hsu hf hr h0 HRi
    go_wp2
    go_ret2
    exact ⟨rfl, HF.out, HST.out⟩
theorem mkdirn_call (args : Array Value) (W : World) : (callFunc 80 args).run Tryz.prog W = .ok (.enter 80 args) W := by kernel_rfl
set_option maxHeartbeats 1000000 in
set_option maxRecDepth 100000 in
theorem Mkdir_at (h : Fs w (dsk lo B G) F m) (hA : AllD F) (hm : m ≤ 600000000000) (p : List UInt8) (hp : p.length ≤ 9223372036854775807) :
    Calls Tryz.prog 32 #[sto (dsk lo B G), tx p] w fun e w' => e = .returned (.int .i64 (mkR F p)) ∧ Fs w' (dsk lo B G) (if mkR F p = 0 then mkF F p else F) (m + 260000) ∧ ST lo w w' := by
  have hmf : ∀ (fn : Fn) (first cap : Array Value) (w : World), (Instr.makeFunc fn first cap).run Tryz.prog w = .ok (.func fn first cap) w := fun _ _ _ _ => rfl
  obtain ⟨W1, hW1⟩ : ∃ W, W = w.alloc (.cells #[tx p] 9) := ⟨_, rfl⟩
  have hb1 : Below w.heap.size w W1 := by rw [hW1]; exact below_alloc _ _
  have hx1 : Bx W1 w.heap.size (tx p) 9 := by rw [hW1]; exact heap_alloc_new _ _
  have hs1 : W1.heap.size = w.heap.size + 1 := by rw [hW1]; simp
  have hy1 := hx1
  have hB := hb1
  obtain ⟨b1, hb1'⟩ : ∃ b, b = w.heap.size := ⟨_, rfl⟩
  rw [← hb1'] at hy1
  have H1' : Hid (b1 = w.heap.size) := hb1'
  have HW1 : Hid _ := hW1
  have hC := attempt_fs (caps := #[ptr b1]) (Q := fun _ => False) (Rok := fun _ => True) (h.below hB) (m' := m + 250000) (by omega) (by omega) (fun k hk => hk.elim) mkdirn_call (fun _ _ _ _ => trivial) (fun _ _ _ _ _ _ _ => trivial) (fun W d vs hb hd hf => mkdir1_at hf hA hm p hp (hy1.below hb))
  have HB : Hid (Below w.heap.size w W1) := hB
  generalize mkF F p = F' at *
  generalize mkR F p = er at *
  obtain ⟨FF, hFF⟩ : ∃ x, x = (if er = 0 then F' else F) := ⟨_, rfl⟩
  rw [← hFF] at hC ⊢
  clear hFF
  clear h hb1 hx1 hs1 hy1 hb1' hW1 hB
  go_enter Tryz.func32, Tryz.ntmps32
  go_wp2_with fail
  rw [← HW1.out, ← H1'.out]
  refine hC.mono ?_
  rintro e w3 ⟨rfl, hsu, hf, -⟩
  have HST : Hid (ST lo w w3) := SU.drop HB.out hsu (fun k hk => hk.elim)
  have HF : Hid (Fs w3 (dsk lo B G) FF (m + 260000)) := hf.mono (by omega)
  clear hC hsu hf
  go_wp2
  go_ret
  exact ⟨rfl, HF.out, HST.out⟩
theorem unlinkn_call (args : Array Value) (W : World) : (callFunc 64 args).run Tryz.prog W = .ok (.enter 64 args) W := by kernel_rfl
set_option maxHeartbeats 1000000 in
set_option maxRecDepth 100000 in
theorem Unlink_at (h : Fs w (dsk lo B G) F m) (hA : AllD F) (hm : m ≤ 600000000000) (h00 : isD F 0 = true) (p : List UInt8) (hp : p.length ≤ 9223372036854775807) (hN : (walkR F p).2 = 0 → isD F (walkR F p).1 = false → Named F (walkR F p).1.toNat) {v : Value} {os : List Int} (ho : OpIn w v os) :
    Calls Tryz.prog 24 #[sto (dsk lo B G), tx p, v] w fun e w' => e = .returned (.int .i64 (ulR F p)) ∧ Fs w' (dsk lo B G) (if ulR F p = 0 then ulF F p os else F) (m + 510000) ∧ ST lo w w' := by
  have hmf : ∀ (fn : Fn) (first cap : Array Value) (w : World), (Instr.makeFunc fn first cap).run Tryz.prog w = .ok (.func fn first cap) w := fun _ _ _ _ => rfl
  obtain ⟨va, vc, rfl, -⟩ := id ho
  obtain ⟨W1, hW1⟩ : ∃ W, W = w.alloc (.cells #[tx p] 9) := ⟨_, rfl⟩
  have hb1 : Below w.heap.size w W1 := by rw [hW1]; exact below_alloc _ _
  have hx1 : Bx W1 w.heap.size (tx p) 9 := by rw [hW1]; exact heap_alloc_new _ _
  have hs1 : W1.heap.size = w.heap.size + 1 := by rw [hW1]; simp
  obtain ⟨W2, hW2⟩ : ∃ W, W = W1.alloc (.cells #[.slice va os.length vc] 27) := ⟨_, rfl⟩
  have hb2 : Below W1.heap.size W1 W2 := by rw [hW2]; exact below_alloc _ _
  have hx2 : Bx W2 W1.heap.size (.slice va os.length vc) 27 := by rw [hW2]; exact heap_alloc_new _ _
  have hs2 : W2.heap.size = W1.heap.size + 1 := by rw [hW2]; simp
  have hy1 := hx1.below hb2
  have hB : Below w.heap.size w W2 := hb1.trans (hb2.mono hb1.size)
  rw [hs1] at hx2
  have hy2 := hx2
  obtain ⟨b1, hb1'⟩ : ∃ b, b = w.heap.size := ⟨_, rfl⟩
  rw [← hb1'] at hy1
  have H1' : Hid (b1 = w.heap.size) := hb1'
  have HW1 : Hid _ := hW1
  obtain ⟨b2, hb2'⟩ : ∃ b, b = w.heap.size + 1 := ⟨_, rfl⟩
  rw [← hb2'] at hy2
  have H2' : Hid (b2 = w.heap.size + 1) := hb2'
  have HW2 : Hid _ := hW2
  have hC := attempt_fs (caps := #[ptr b1, ptr b2]) (Q := fun _ => False) (Rok := fun _ => True) (h.below hB) (m' := m + 500000) (by omega) (by omega) (fun k hk => hk.elim) unlinkn_call (fun _ _ _ _ => trivial) (fun _ _ _ _ _ _ _ => trivial) (fun W d vs hb hd hf => unlink1_at hf hA hm h00 p hp hN ((ho.below hB).below hb) (hy1.below hb) (hy2.below hb))
  have HB : Hid (Below w.heap.size w W2) := hB
  generalize ulF F p os = F' at *
  generalize ulR F p = er at *
  obtain ⟨FF, hFF⟩ : ∃ x, x = (if er = 0 then F' else F) := ⟨_, rfl⟩
  rw [← hFF] at hC ⊢
  clear hFF
  clear h hb1 hx1 hs1 hy1 hb1' hW1 hb2 hx2 hs2 hy2 hb2' hW2 hB
  go_enter Tryz.func24, Tryz.ntmps24
  go_wp2_with fail
  rw [← HW1.out, ← HW2.out, ← H2'.out, ← H1'.out]
  refine hC.mono ?_
  rintro e w3 ⟨rfl, hsu, hf, -⟩
  have HST : Hid (ST lo w w3) := SU.drop HB.out hsu (fun k hk => hk.elim)
  have HF : Hid (Fs w3 (dsk lo B G) FF (m + 510000)) := hf.mono (by omega)
  clear hC hsu hf
  go_wp2
  go_ret
  exact ⟨rfl, HF.out, HST.out⟩
theorem linkn_call (args : Array Value) (W : World) : (callFunc 57 args).run Tryz.prog W = .ok (.enter 57 args) W := by kernel_rfl
set_option maxHeartbeats 1000000 in
set_option maxRecDepth 100000 in
theorem Link_at (h : Fs w (dsk lo B G) F m) (hA : AllD F) (hm : m ≤ 600000000000) (a b : List UInt8) (ha : a.length ≤ 9223372036854775807) (hbl : b.length ≤ 9223372036854775807) (hN : (walkR F a).2 = 0 → isD F (walkR F a).1 = false → Named F (walkR F a).1.toNat) :
    Calls Tryz.prog 22 #[sto (dsk lo B G), tx a, tx b] w fun e w' => e = .returned (.int .i64 (lnR F a b)) ∧ Fs w' (dsk lo B G) (if lnR F a b = 0 then lnF F a b else F) (m + 510000) ∧ ST lo w w' := by
  have hmf : ∀ (fn : Fn) (first cap : Array Value) (w : World), (Instr.makeFunc fn first cap).run Tryz.prog w = .ok (.func fn first cap) w := fun _ _ _ _ => rfl
  obtain ⟨W1, hW1⟩ : ∃ W, W = w.alloc (.cells #[tx a] 9) := ⟨_, rfl⟩
  have hb1 : Below w.heap.size w W1 := by rw [hW1]; exact below_alloc _ _
  have hx1 : Bx W1 w.heap.size (tx a) 9 := by rw [hW1]; exact heap_alloc_new _ _
  have hs1 : W1.heap.size = w.heap.size + 1 := by rw [hW1]; simp
  obtain ⟨W2, hW2⟩ : ∃ W, W = W1.alloc (.cells #[tx b] 9) := ⟨_, rfl⟩
  have hb2 : Below W1.heap.size W1 W2 := by rw [hW2]; exact below_alloc _ _
  have hx2 : Bx W2 W1.heap.size (tx b) 9 := by rw [hW2]; exact heap_alloc_new _ _
  have hs2 : W2.heap.size = W1.heap.size + 1 := by rw [hW2]; simp
  have hy1 := hx1.below hb2
  have hB : Below w.heap.size w W2 := hb1.trans (hb2.mono hb1.size)
  rw [hs1] at hx2
  have hy2 := hx2
  obtain ⟨b1, hb1'⟩ : ∃ b, b = w.heap.size := ⟨_, rfl⟩
  rw [← hb1'] at hy1
  have H1' : Hid (b1 = w.heap.size) := hb1'
  have HW1 : Hid _ := hW1
  obtain ⟨b2, hb2'⟩ : ∃ b, b = w.heap.size + 1 := ⟨_, rfl⟩
  rw [← hb2'] at hy2
  have H2' : Hid (b2 = w.heap.size + 1) := hb2'
  have HW2 : Hid _ := hW2
  have hC := attempt_fs (caps := #[ptr b1, ptr b2]) (Q := fun _ => False) (Rok := fun _ => True) (h.below hB) (m' := m + 500000) (by omega) (by omega) (fun k hk => hk.elim) linkn_call (fun _ _ _ _ => trivial) (fun _ _ _ _ _ _ _ => trivial) (fun W d vs hb hd hf => link1_at hf hA hm a b ha hbl hN (hy1.below hb) (hy2.below hb))
  have HB : Hid (Below w.heap.size w W2) := hB
  generalize lnF F a b = F' at *
  generalize lnR F a b = er at *
  obtain ⟨FF, hFF⟩ : ∃ x, x = (if er = 0 then F' else F) := ⟨_, rfl⟩
  rw [← hFF] at hC ⊢
  clear hFF
  clear h hb1 hx1 hs1 hy1 hb1' hW1 hb2 hx2 hs2 hy2 hb2' hW2 hB
  go_enter Tryz.func22, Tryz.ntmps22
  go_wp2_with fail
  rw [← HW1.out, ← HW2.out, ← H2'.out, ← H1'.out]
  refine hC.mono ?_
  rintro e w3 ⟨rfl, hsu, hf, -⟩
  have HST : Hid (ST lo w w3) := SU.drop HB.out hsu (fun k hk => hk.elim)
  have HF : Hid (Fs w3 (dsk lo B G) FF (m + 510000)) := hf.mono (by omega)
  clear hC hsu hf
  go_wp2
  go_ret
  exact ⟨rfl, HF.out, HST.out⟩
theorem closen_call (args : Array Value) (W : World) : (callFunc 69 args).run Tryz.prog W = .ok (.enter 69 args) W := by kernel_rfl
set_option maxHeartbeats 1000000 in
set_option maxRecDepth 100000 in
theorem Close_at (h : Fs w (dsk lo B G) F m) (hm : m ≤ 600000000000) (i : Nat) (hi : i < 32) (h00 : (F.ino 0).kind = 2) :
    Calls Tryz.prog 27 #[sto (dsk lo B G), .int .i64 (i : Int)] w fun e w' => e = .returned (.tuple #[]) ∧ Fs w' (dsk lo B G) (clF F i) (m + 25000) ∧ ST lo w w' := by
  have hmf : ∀ (fn : Fn) (first cap : Array Value) (w : World), (Instr.makeFunc fn first cap).run Tryz.prog w = .ok (.func fn first cap) w := fun _ _ _ _ => rfl
  obtain ⟨W1, hW1⟩ : ∃ W, W = w.alloc (.cells #[.int .i64 (i : Int)] 3) := ⟨_, rfl⟩
  have hb1 : Below w.heap.size w W1 := by rw [hW1]; exact below_alloc _ _
  have hx1 : Bx W1 w.heap.size (.int .i64 (i : Int)) 3 := by rw [hW1]; exact heap_alloc_new _ _
  have hs1 : W1.heap.size = w.heap.size + 1 := by rw [hW1]; simp
  have hy1 := hx1
  have hB := hb1
  obtain ⟨b1, hb1'⟩ : ∃ b, b = w.heap.size := ⟨_, rfl⟩
  rw [← hb1'] at hy1
  have H1' : Hid (b1 = w.heap.size) := hb1'
  have HW1 : Hid _ := hW1
  have hC := attempt_fs (caps := #[ptr b1]) (Q := fun _ => False) (Rok := fun _ => True) (h.below hB) (m' := m + 15000) (by omega) (by omega) (fun k hk => hk.elim) closen_call (fun _ _ _ _ => trivial) (fun _ _ _ _ _ _ _ => trivial) (fun W d vs hb hd hf => close1_at hf hm i hi h00 (hy1.below hb))
  have HB : Hid (Below w.heap.size w W1) := hB
  clear h hb1 hx1 hs1 hy1 hb1' hW1 hB
  go_enter Tryz.func27, Tryz.ntmps27
  go_wp2_with fail
  rw [← HW1.out, ← H1'.out]
  refine hC.mono ?_
  rintro e w3 ⟨rfl, hsu, hf, -⟩
  have HST : Hid (ST lo w w3) := SU.drop HB.out hsu (fun k hk => hk.elim)
  have HF : Hid (Fs w3 (dsk lo B G) (clF F i) (m + 25000)) := hf.mono (by omega)
  clear hC hsu hf
  go_wp2
  go_end0
  exact ⟨rfl, HF.out, HST.out⟩
end
end Go.Proofs.YtcjpahnlckfgoaaGreatDoor
