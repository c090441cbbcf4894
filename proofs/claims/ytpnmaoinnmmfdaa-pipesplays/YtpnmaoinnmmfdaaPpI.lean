/- Package pipes: read, Decode. -/
import Derived.Test.YtpnmaoinnmmfdaaPpH
namespace Go.Proofs.Ytpnmaoinnmmfdaa
open Go.RowKit Go.Lib
set_option linter.unusedVariables false

theorem ps_set_none {S : PS} {i : Nat} (h : S i = none) : S.set i none = S := by
  funext k
  by_cases e : k = i
  · rw [e, PS.set_same, h]
  · exact PS.set_other _ _ _ _ e
theorem putL_nil {l : List UInt8} (h : l.length ≤ 8) : putL [] l = l := by
  unfold putL
  rw [List.nil_append, List.take_of_length_le (by simpa using h)]
theorem rdB_len {w : List Int} {l : List UInt8} (h : rdB w = some l) : l.length ≤ 8 ∧ 1 + l.length ≤ w.length := by
  cases w with
  | nil => cases h
  | cons c t =>
    rw [rdB] at h
    by_cases h2 : 8 < c ∨ (t.length : Int) < c
    · rw [if_pos h2] at h; cases h
    · rw [if_neg h2] at h
      by_cases h3 : okB (t.take c.toNat) = true
      · rw [if_pos h3] at h
        cases h
        rw [unB_len, List.length_take, List.length_cons]
        omega
      · rw [if_neg h3] at h; cases h
set_option maxRecDepth 100000 in
set_option maxHeartbeats 4000000 in
theorem read_at (b i : Nat) (S : PS) (a : Option Addr) (n cap : Nat) (D : List Int) (w : World) (h : PpAt w b S) (hi : i < 16) (hs : S i = none) (hr : Rd w a D) (hn : n = D.length) (hcap : n ≤ cap) (hu : U64 D) (hn9 : n ≤ 2000) :
    Calls Try.prog 30 #[.pointer (some ⟨b, 0, none⟩), .int .i64 i, .slice a n cap] w fun x w' => (rd1 D = none → x = .returned (.tuple #[.int .i64 0, .bool false])) ∧ (∀ m o, rd1 D = some (m, o) → x = .returned (.tuple #[.int .i64 (m : Nat), .bool true]) ∧ PpAt w' b (S.set i o)) ∧ Upd b w w' := by
  cases D with
  | nil =>
    obtain rfl : n = 0 := hn
    clear hr hu hn9 h hs hcap
    go_enter Try.func30, Try.ntmps30
    go_wp2
    go_ret2
    exact ⟨fun _ => rfl, fun m o h => (by cases h), Upd.refl _ _⟩
  | cons c t =>
    obtain ⟨g, off, rfl, c0⟩ := hr 0 c rfl
    have hb := u64_get hu (j := 0) (x := c) rfl
    rw [Nat.add_zero] at c0
    have hnl : n = t.length + 1 := hn
    have n0 : (0 : Int) < (n : Int) := by omega
    have n1 : ((n : Int) == 0) = false := beq_false_of_ne (by omega)
    have n0' : 0 < n := by omega
    have HH : Hid (PpAt w b S) := h
    have HS0 : Hid (S i = none) := hs
    obtain ⟨hb0, hb1⟩ := hb
    by_cases h1 : 1 < c
    · have HN : Hid (rd1 (c :: t) = none) := by show _ = _; rw [rd1, if_pos h1]
      have g1 : decide (1 < c) = true := decide_eq_true h1
      clear hnl hr hu hn h hs
      go_enter Try.func30, Try.ntmps30
      go_wp2
      go_ret2
      exact ⟨fun _ => rfl, fun m o h => (by rw [HN.out] at h; cases h), Upd.refl _ _⟩
    · have g1 : decide (1 < c) = false := decide_eq_false h1
      by_cases h0 : c = 0
      · have HN : Hid (rd1 (c :: t) = some (1, none)) := by show _ = _; rw [rd1, if_neg h1, if_pos h0]
        rw [h0] at c0 HN
        have HS1 : Hid (S.set i none = S) := ps_set_none hs
        have g2 : decide ((1 : Int) < 0) = false := rfl
        clear hnl hr hu hn h hs g1 hb0 hb1 h1
        rw [h0]
        clear h0
        go_enter Try.func30, Try.ntmps30
        go_wp2
        go_ret2
        refine ⟨fun h => (by rw [HN.out] at h; cases h), fun m o h => ?_, Upd.refl _ _⟩
        rw [HN.out] at h
        cases h
        rw [HS1.out]
        exact ⟨rfl, HH.out⟩
      · obtain rfl : c = 1 := by omega
        obtain ⟨a2, c2, hcut, hc2, hrd⟩ := cut_wl ((1 : Int) :: t) (some ⟨g, off, none⟩) n cap 1 hn (by omega) hcap
        have hRB := readBytes_at a2 (n - 1) c2 t w (hrd w hr) (by omega) (fun x hx => hu x (by simp [hx])) (by omega)
        have HD : Hid (rd1 (1 :: t) = (rdB t).map (fun l => (2 + l.length, some l))) := by show _ = _; rw [rd1, if_neg h1, if_neg h0]
        obtain ⟨row, hP, hR⟩ := h
        have hcut' : ∀ V, (Instr.slice 43 (.slice (some ⟨g, off, none⟩) n cap) (some (.int .i64 1)) none none).run Try.prog V = .ok (.slice a2 (n - 1) c2) V := hcut
        have HP : Hid (PB w b row) := hP
        have HR : Hid (PpR row S) := hR
        have HTl : Hid (n = t.length + 1) := hnl
        clear hrd hnl hr hu hn hs hb0 hb1 hcut hP hR HH
        generalize n - 1 = n2 at *
        go_enter Try.func30, Try.ntmps30
        go_wp2_with fail
        refine hRB.mono ?_
        rintro x w1 ⟨hx1, hx2, hb1⟩
        have HB1 : Hid (Below w.heap.size w w1) := hb1
        cases hrb : rdB t with
        | none =>
          have hx := hx1 hrb
          have HN : Hid (rd1 (1 :: t) = none) := by show _ = _; rw [HD.out, hrb]; rfl
          subst hx
          clear hx1 hx2 hb1 hRB hrb HD
          go_wp2
          go_ret2
          exact ⟨fun _ => rfl, fun m o h => (by rw [HN.out] at h; cases h), Upd.of_below HB1.out⟩
        | some l =>
          obtain ⟨G, hx, hG, hbt⟩ := hx2 l hrb
          obtain ⟨hl8, hlt⟩ := rdB_len hrb
          have HN : Hid (rd1 (1 :: t) = some (2 + l.length, some l)) := by show _ = _; rw [HD.out, hrb]; rfl
          subst hx
          have hP1 := HP.out.below hb1
          have c1 := (hP1.cell i).trans (HR.out.made i hi)
          rw [HS0.out] at c1
          dsimp only [Option.isSome] at c1
          have f1 := hP1.free i
          have hii : (i : Int) < 16 := by omega
          have hR2 := HR.out.mk' hi HS0.out
          obtain ⟨e, hrg⟩ := hR2.ring i hi
          rw [PS.set_same] at hrg
          have hP2 := hP1.set i (.bool true)
          have hbt2 : Bt (w1.setCell ⟨b, i, none⟩ (.bool true)) G l := hbt.keep (Below.heap_setCell _ _ _ _ (hbt.ne hP1))
          have HR2 : Hid (PpR (row.setIfInBounds i (.bool true)) (S.set i (some []))) := hR2
          have HU1 : Hid (Upd b w (w1.setCell ⟨b, i, none⟩ (.bool true))) := (Upd.of_below hb1).trans (Upd.setCell _ _ _ _)
          have hst := fun c => hbt2.string (cap := c)
          have hPu := rput_at b (16 + i * 17) e [] l (row.setIfInBounds i (.bool true)) (w1.setCell ⟨b, i, none⟩ (.bool true)).drew (PB.drew hP2) hrg
          have hst2 : ∀ c, (convert 69 9 (.slice (some ⟨G, 0, none⟩) l.length c)).run Try.prog (w1.setCell ⟨b, i, none⟩ (.bool true)).drew = .ok (tx l) (w1.setCell ⟨b, i, none⟩ (.bool true)).drew := fun c => Bt.string (w := (w1.setCell ⟨b, i, none⟩ (.bool true)).drew) (cap := c) hbt2
          rw [putL_nil hl8] at hPu
          have HLn : Hid (2 + l.length = 2 + l.length) := rfl
          have hsum : IntKind.i64.wrap (2 + (l.length : Int)) = 2 + (l.length : Int) := by simp [IntKind.wrap, IntKind.bits, IntKind.signed]; omega
          generalize putN [] l = pn at *
          generalize hLL : l.length = ll at *
          clear hx1 hx2 hb1 hRB hrb HD hP1 hbt hbt2 hR2 hrg hP2 hLL hst
          go_wp2_with fail
          go_region_with (go_at_call 26; refine hPu.mono ?_; rintro x2 w2 ⟨rfl, row', hP', hr', hsm, hu'⟩)
          all_goals
            have HF : Hid (PpAt w2 b ((S.set i (some [])).set i (some l))) := ⟨row', hP', HR2.out.put hi hsm hr' (by rw [PS.set_same]; rfl)⟩
            have HU2 : Hid (Upd b w w2) := (HU1.out.trans (Upd.drew b _)).trans hu'
            clear hP' hr' hsm hu'
            go_wp2
            go_ret2
            refine ⟨fun h => (by rw [HN.out] at h; cases h), fun m o h => ?_, HU2.out⟩
            rw [HN.out] at h
            cases h
            refine ⟨by simp, ?_⟩
            refine HF.out.ext (fun j hj => ?_)
            by_cases ej : j = i
            · rw [ej, PS.set_same, PS.set_same]
            · rw [PS.set_other _ _ _ _ ej, PS.set_other _ _ _ _ ej, PS.set_other _ _ _ _ ej]
end Go.Proofs.Ytpnmaoinnmmfdaa
