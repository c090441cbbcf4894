/- Package fscore over the disk: Rename, Make. -/
import Derived.Test.YtcjpahnlckfgoaaGreatDoorFsL
import Derived.Test.YtcjpahnlckfgoaaGreatDoorFsMN
import Derived.Test.YtcjpahnlckfgoaaGreatDoorFsHI
namespace Go.Proofs.YtcjpahnlckfgoaaGreatDoor
open Go.RowKit
set_option linter.unusedVariables false

section
variable {w w' : World} {m : Nat} {S : Sto} {F : FS}
set_option maxHeartbeats 1000000 in
set_option maxRecDepth 100000 in
theorem rename1_at (h : Fs w S F m) (hA : AllD F) (hm : m ≤ 600000000000) (a b : List UInt8) (ha : a.length ≤ 9223372036854775807) (hb : b.length ≤ 9223372036854775807) {v : Value} {os : List Int} (ho : OpIn w v os) (hN : (paR F b).2.2 = 0 → ∀ j : Nat, fdR F (paR F b).1 (paR F b).2.1 = (j : Int) → isD F (j : Int) = false → Named F j) (hdp : (paR F a).2.2 = 0 → (walkR F a).2 = 0 → (paR F b).2.2 = 0 → ∀ j : Nat, fdR F (paR F b).1 (paR F b).2.1 = (j : Int) → isD F (j : Int) = false → isD F (walkR F a).1 = false → (j : Int) ≠ (walkR F a).1 → rmR (dpF F (paR F b).1 (paR F b).2.1 j os) (paR F a).1 (paR F a).2.1 = 0 ∧ AllD (dpF F (paR F b).1 (paR F b).2.1 j os) ∧ (dpF F (paR F b).1 (paR F b).2.1 j os).n = F.n) {b1 b2 b3 : Nat} (h1 : Bx w b1 (tx a) 9) (h2 : Bx w b2 (tx b) 9) (h3 : Bx w b3 v 27) :
    Calls Tryz.prog 71 #[sto S, ptr b1, ptr b2, ptr b3] w (FDo S F.n (m + 1000000) S.lo (rnR F a b os) (rnF F a b os) (fun _ => False) (fun _ => True) w) := by
  have hC := frename_at h hA hm a b ha hb ho hN hdp
  have c1 := h1.cell
  have c2 := h2.cell
  have c3 := h3.cell
  obtain ⟨va, vc, rfl, -⟩ := ho
  generalize rnF F a b os = F' at *
  generalize rnR F a b os = er at *
  clear h h1 h2 h3 hN hdp
  go_enter Tryz.func71, Tryz.ntmps71
  go_wp2_with fail
  refine hC.mono ?_
  rintro e w2 (⟨h0, rfl, hf, hbg⟩ | ⟨h0, rfl, hws, hbg⟩)
  · have HE : Hid (SU S.lo (fun _ => False) w w2 ∧ Fs w2 S F' (m + 1000000) ∧ True) := ⟨hbg, hf, trivial⟩
    have HK : Hid (er = 0) := h0
    clear hC hf hbg h0
    go_wp2
    go_end0
    exact Or.inl ⟨HK.out, rfl, HE.out⟩
  · have HK : Hid ((er != 0) = true) := h0
    have HE : Hid (SU S.lo (fun _ => False) w w2 ∧ ∃ ws, Dk w2 S F.n ws (m + 1000000)) := ⟨hbg, hws⟩
    clear hC hws hbg h0
    go_wp2
    exact ⟨rfl, Or.inr ⟨HK.out, rfl, HE.out⟩⟩
set_option maxHeartbeats 1000000 in
set_option maxRecDepth 100000 in
theorem make1_at {PI : FS → List Nd → Prop} (hPl : PlI PI) {F0 : FS} {n : Nat} {v : Value} {l : List Nd} (hn0 : F0.n = n) (hF : Calls Tryz.prog 20 #[sto S, .int .i64 (n : Int)] w fun e w' => e = .returned (.int .i64 0) ∧ Fs w' S F0 (m + 3000) ∧ BG S w w') (hP0 : PI F0 l) (hm : m ≤ 500000000000) (hl : l.length ≤ 10000) (hv : NdIn w v l) (hs : ∀ x ∈ l, x.path.length ≤ 9223372036854775807 ∧ x.data.length ≤ 9223372036854775807) {b1 b2 : Nat} (h1 : Bx w b1 (.int .i64 (n : Int)) 3) (h2 : Bx w b2 v 33) :
    Calls Tryz.prog 47 #[sto S, ptr b1, ptr b2] w (FDo S n (m + 3000 + 300000 * l.length) S.lo (plR F0 l).1 (plR F0 l).2 (fun _ => False) (fun _ => True) w) := by
  have hC := fplant_at hPl hn0 hF hP0 hm hl hv hs
  have c1 := h1.cell
  have c2 := h2.cell
  obtain ⟨va, vc, rfl, -⟩ := hv
  generalize plR F0 l = pr at *
  obtain ⟨er, F'⟩ := pr
  dsimp only at *
  clear hF h1 h2 hs
  go_enter Tryz.func47, Tryz.ntmps47
  go_wp2_with fail
  refine hC.mono ?_
  rintro e w2 (⟨h0, rfl, hf, hbg⟩ | ⟨h0, rfl, hws, hbg⟩)
  · have HE : Hid (SU S.lo (fun _ => False) w w2 ∧ Fs w2 S F' (m + 3000 + 300000 * l.length) ∧ True) := ⟨hbg, hf, trivial⟩
    have HK : Hid (er = 0) := h0
    clear hC hf hbg h0
    go_wp2
    go_end0
    exact Or.inl ⟨HK.out, rfl, HE.out⟩
  · have HK : Hid ((er != 0) = true) := h0
    have HE : Hid (SU S.lo (fun _ => False) w w2 ∧ ∃ ws, Dk w2 S n ws (m + 3000 + 300000 * l.length)) := ⟨hbg, hws⟩
    clear hC hws hbg h0
    go_wp2
    exact ⟨rfl, Or.inr ⟨HK.out, rfl, HE.out⟩⟩
end
section
variable {w w' : World} {m lo B G : Nat} {F : FS}
theorem renamen_call (args : Array Value) (W : World) : (callFunc 71 args).run Tryz.prog W = .ok (.enter 71 args) W := by kernel_rfl
theorem maken_call (args : Array Value) (W : World) : (callFunc 47 args).run Tryz.prog W = .ok (.enter 47 args) W := by kernel_rfl
set_option maxHeartbeats 1000000 in
set_option maxRecDepth 100000 in
theorem Rename_at (h : Fs w (dsk lo B G) F m) (hA : AllD F) (hm : m ≤ 600000000000) (a b : List UInt8) (ha : a.length ≤ 9223372036854775807) (hbl : b.length ≤ 9223372036854775807) {v : Value} {os : List Int} (ho : OpIn w v os) (hN : (paR F b).2.2 = 0 → ∀ j : Nat, fdR F (paR F b).1 (paR F b).2.1 = (j : Int) → isD F (j : Int) = false → Named F j) (hdp : (paR F a).2.2 = 0 → (walkR F a).2 = 0 → (paR F b).2.2 = 0 → ∀ j : Nat, fdR F (paR F b).1 (paR F b).2.1 = (j : Int) → isD F (j : Int) = false → isD F (walkR F a).1 = false → (j : Int) ≠ (walkR F a).1 → rmR (dpF F (paR F b).1 (paR F b).2.1 j os) (paR F a).1 (paR F a).2.1 = 0 ∧ AllD (dpF F (paR F b).1 (paR F b).2.1 j os) ∧ (dpF F (paR F b).1 (paR F b).2.1 j os).n = F.n) :
    Calls Tryz.prog 28 #[sto (dsk lo B G), tx a, tx b, v] w fun e w' => e = .returned (.int .i64 (rnR F a b os)) ∧ Fs w' (dsk lo B G) (if rnR F a b os = 0 then rnF F a b os else F) (m + 1010000) ∧ ST lo w w' := by
  have hmf : ∀ (fn : Fn) (first cap : Array Value) (w : World), (Instr.makeFunc fn first cap).run Tryz.prog w = .ok (.func fn first cap) w := fun _ _ _ _ => rfl
  obtain ⟨va, vc, rfl, -⟩ := id ho
  obtain ⟨W1, hW1⟩ : ∃ W, W = w.alloc (.cells #[tx a] 9) := ⟨_, rfl⟩
  have hb1 : Below w.heap.size w W1 := by rw [hW1]; exact below_alloc _ _
  have hx1 : Bx W1 w.heap.size (tx a) 9 := by rw [hW1]; exact heap_alloc_new _ _
  have hs1 : W1.heap.size = w.heap.size + 1 := by rw [hW1]; simp
  obtain ⟨W2, hW2⟩ : ∃ W, W = W1.alloc (.cells #[tx b] 9) := ⟨_, rfl⟩
  have hb2 : Below W1.heap.size W1 W2 := by rw [hW2]; exact below_alloc _ _
  have hx2 : Bx W2 W1.heap.size (tx b) 9 := by rw [hW2]; exact heap_alloc_new _ _
  have hs2 : W2.heap.size = W1.heap.size + 1 := by rw [hW2]; simp
  obtain ⟨W3, hW3⟩ : ∃ W, W = W2.alloc (.cells #[.slice va os.length vc] 27) := ⟨_, rfl⟩
  have hb3 : Below W2.heap.size W2 W3 := by rw [hW3]; exact below_alloc _ _
  have hx3 : Bx W3 W2.heap.size (.slice va os.length vc) 27 := by rw [hW3]; exact heap_alloc_new _ _
  have hs3 : W3.heap.size = W2.heap.size + 1 := by rw [hW3]; simp
  have hB : Below w.heap.size w W3 := hb1.trans ((hb2.trans (hb3.mono hb2.size)).mono hb1.size)
  have hy1 := (hx1.below hb2).below hb3
  have hy2 := hx2.below hb3
  have hy3 := hx3
  rw [hs1] at hy2
  rw [hs2, hs1] at hy3
  obtain ⟨b1, hb1'⟩ : ∃ b, b = w.heap.size := ⟨_, rfl⟩
  rw [← hb1'] at hy1
  have H1' : Hid (b1 = w.heap.size) := by show _ = _; omega
  have HW1 : Hid _ := hW1
  obtain ⟨b2, hb2'⟩ : ∃ b, b = w.heap.size + 1 := ⟨_, rfl⟩
  rw [← hb2'] at hy2
  have H2' : Hid (b2 = w.heap.size + 1) := by show _ = _; omega
  have HW2 : Hid _ := hW2
  obtain ⟨b3, hb3'⟩ : ∃ b, b = w.heap.size + 1 + 1 := ⟨_, rfl⟩
  rw [← hb3'] at hy3
  have H3' : Hid (b3 = w.heap.size + 2) := by show _ = _; omega
  have HW3 : Hid _ := hW3
  have hC := attempt_fs (caps := #[ptr b1, ptr b2, ptr b3]) (Q := fun _ => False) (Rok := fun _ => True) (h.below hB) (m' := m + 1000000) (by omega) (by omega) (fun k hk => hk.elim) renamen_call (fun _ _ _ _ => trivial) (fun _ _ _ _ _ _ _ => trivial) (fun W d vs hb hd hf => rename1_at hf hA hm a b ha hbl ((ho.below hB).below hb) hN hdp (hy1.below hb) (hy2.below hb) (hy3.below hb))
  generalize rnF F a b os = F' at *
  generalize rnR F a b os = er at *
  obtain ⟨FF, hFF⟩ : ∃ x, x = (if er = 0 then F' else F) := ⟨_, rfl⟩
  rw [← hFF] at hC ⊢
  have HB : Hid (Below w.heap.size w W3) := hB
  clear h hb1 hx1 hs1 hy1 hb1' hW1 hb2 hx2 hs2 hy2 hb2' hW2 hb3 hx3 hs3 hy3 hb3' hW3 hB hFF hN hdp
  go_enter Tryz.func28, Tryz.ntmps28
  go_wp2_with fail
  rw [← HW1.out, ← HW2.out, ← HW3.out, ← H3'.out, ← H2'.out, ← H1'.out]
  refine hC.mono ?_
  rintro e w3 ⟨rfl, hsu, hf, -⟩
  have HST : Hid (ST lo w w3) := SU.drop HB.out hsu (fun k hk => hk.elim)
  have HF : Hid (Fs w3 (dsk lo B G) FF (m + 1010000)) := hf.mono (by omega)
  clear hC hsu hf
  go_wp2
  go_ret
  exact ⟨rfl, HF.out, HST.out⟩
set_option maxHeartbeats 1000000 in
set_option maxRecDepth 100000 in
theorem Make_at {PI : FS → List Nd → Prop} (hPl : PlI PI) {F0 : FS} {n : Nat} {vs : List Int} {v : Value} {l : List Nd} (h : Dk w (dsk lo B G) n vs m) (hnn : n ≤ 1024) (hn0 : F0.n = n) (hFm : ∀ W d, Dk W (dft (dsk lo B G) lo d vs) n vs m → Calls Tryz.prog 20 #[sto (dft (dsk lo B G) lo d vs), .int .i64 (n : Int)] W fun e w' => e = .returned (.int .i64 0) ∧ Fs w' (dft (dsk lo B G) lo d vs) F0 (m + 3000) ∧ BG (dft (dsk lo B G) lo d vs) W w') (hP0 : PI F0 l) (hm : m ≤ 500000000000) (hl : l.length ≤ 10000) (hv : NdIn w v l) (hs : ∀ x ∈ l, x.path.length ≤ 9223372036854775807 ∧ x.data.length ≤ 9223372036854775807) :
    Calls Tryz.prog 18 #[sto (dsk lo B G), .int .i64 (n : Int), v] w fun e w' => e = .returned (.int .i64 (plR F0 l).1) ∧ ST lo w w' ∧ (∃ ws, Dk w' (dsk lo B G) n ws (m + 5000 + 300000 * l.length)) ∧ ((plR F0 l).1 = 0 → Fs w' (dsk lo B G) (plR F0 l).2 (m + 5000 + 300000 * l.length)) := by
  have hmf : ∀ (fn : Fn) (first cap : Array Value) (w : World), (Instr.makeFunc fn first cap).run Tryz.prog w = .ok (.func fn first cap) w := fun _ _ _ _ => rfl
  obtain ⟨va, vc, rfl, -⟩ := id hv
  obtain ⟨W1, hW1⟩ : ∃ W, W = w.alloc (.cells #[.int .i64 (n : Int)] 3) := ⟨_, rfl⟩
  have hb1 : Below w.heap.size w W1 := by rw [hW1]; exact below_alloc _ _
  have hx1 : Bx W1 w.heap.size (.int .i64 (n : Int)) 3 := by rw [hW1]; exact heap_alloc_new _ _
  have hs1 : W1.heap.size = w.heap.size + 1 := by rw [hW1]; simp
  obtain ⟨W2, hW2⟩ : ∃ W, W = W1.alloc (.cells #[.slice va l.length vc] 33) := ⟨_, rfl⟩
  have hb2 : Below W1.heap.size W1 W2 := by rw [hW2]; exact below_alloc _ _
  have hx2 : Bx W2 W1.heap.size (.slice va l.length vc) 33 := by rw [hW2]; exact heap_alloc_new _ _
  have hs2 : W2.heap.size = W1.heap.size + 1 := by rw [hW2]; simp
  have hB : Below w.heap.size w W2 := hb1.trans (hb2.mono hb1.size)
  have hy1 := hx1.below hb2
  have hy2 := hx2
  rw [hs1] at hy2
  obtain ⟨b1, hb1'⟩ : ∃ b, b = w.heap.size := ⟨_, rfl⟩
  rw [← hb1'] at hy1
  have H1' : Hid (b1 = w.heap.size) := by show _ = _; omega
  have HW1 : Hid _ := hW1
  obtain ⟨b2, hb2'⟩ : ∃ b, b = w.heap.size + 1 := ⟨_, rfl⟩
  rw [← hb2'] at hy2
  have H2' : Hid (b2 = w.heap.size + 1) := by show _ = _; omega
  have HW2 : Hid _ := hW2
  have hC := attempt_at (caps := #[ptr b1, ptr b2]) (Q := fun _ => False) (Rok := fun ws w1 => (plR F0 l).1 = 0 ∧ Holds ws (plR F0 l).2 ∧ FInv (plR F0 l).2 ∧ (plR F0 l).2.n = n) (Re := fun e => e = (plR F0 l).1 ∧ (plR F0 l).1 ≠ 0) (h.below hB) hnn (m' := m + 3000 + 300000 * l.length) (by omega) (by omega) (fun k hk => hk.elim) maken_call (fun _ _ _ _ x => x) (fun _ _ _ _ _ _ _ x => x) (fun W d hb hd hk => by
    refine (make1_at hPl hn0 (hFm W d hk) hP0 hm hl ((hv.below hB).below hb) hs (hy1.below hb) (hy2.below hb)).mono ?_
    rintro e w' (⟨h0, rfl, hsu, ⟨ws, hf⟩, hr⟩ | ⟨h0, rfl, hsu, hws⟩)
    · have e1 := dft_len hk
      have e2 := dft_len hf.disk
      have en : (plR F0 l).2.n = n := by omega
      have hd2 := hf.disk
      rw [en] at hd2
      exact Or.inl ⟨rfl, hsu, ws, hd2, h0, hf.hold, hf.inv, en⟩
    · exact Or.inr ⟨(plR F0 l).1, rfl, hsu, hws, rfl, by simpa using h0⟩)
  have HC : Hid (Calls Tryz.prog 43 #[sto (dsk lo B G), .func (.func 47) #[] #[ptr b1, ptr b2]] W2 fun e w' => e = .returned (.int .i64 (plR F0 l).1) ∧ SU lo (fun _ => False) W2 w' ∧ (∃ ws, Dk w' (dsk lo B G) n ws (m + 5000 + 300000 * l.length)) ∧ ((plR F0 l).1 = 0 → Fs w' (dsk lo B G) (plR F0 l).2 (m + 5000 + 300000 * l.length))) := hC.mono (by
    rintro e w' (⟨rfl, hsu, ws, hd, h0, hH, hI, hn⟩ | ⟨er', rfl, hsu, hd, rfl, h0⟩)
    · rw [h0]
      exact ⟨rfl, hsu, ⟨ws, hd.mono (by omega)⟩, fun _ => ⟨ws, by rw [hn]; exact hd.mono (by omega), hH, hI⟩⟩
    · exact ⟨rfl, hsu, ⟨_, hd.mono (by omega)⟩, fun x => absurd x h0⟩)
  clear hC
  have hC := HC.out
  clear HC
  generalize plR F0 l = pr at *
  obtain ⟨er, F'⟩ := pr
  dsimp only at *
  have HB : Hid (Below w.heap.size w W2) := hB
  clear h hb1 hx1 hs1 hy1 hb1' hW1 hb2 hx2 hs2 hy2 hb2' hW2 hB hFm hs
  go_enter Tryz.func18, Tryz.ntmps18
  go_wp2_with fail
  rw [← HW1.out, ← HW2.out, ← H2'.out, ← H1'.out]
  refine hC.mono ?_
  rintro e w3 ⟨rfl, hsu, hd, hf⟩
  have HE : Hid (ST lo w w3 ∧ (∃ ws, Dk w3 (dsk lo B G) n ws (m + 5000 + 300000 * l.length)) ∧ (er = 0 → Fs w3 (dsk lo B G) F' (m + 5000 + 300000 * l.length))) := ⟨SU.drop HB.out hsu (fun k hk => hk.elim), hd, hf⟩
  clear hC hsu hd hf
  go_wp2
  go_ret
  exact ⟨rfl, HE.out⟩
end
end Go.Proofs.YtcjpahnlckfgoaaGreatDoor
