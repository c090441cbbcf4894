/- Package exomem: Page, Copy, Read, Write, New. -/
import Derived.Test.YtfnafjddajgahaaGreatExE
namespace Go.Proofs.YtfnafjddajgahaaGreat
open Go.RowKit Ca
set_option linter.unusedVariables false

section
variable {K : Nat} {Y : Lay} {n : Nat} {vs : List Int} {T : Tab} {F : Pages} {w : World}

theorem page_ret (x : Int × Bool) (B : Bool) (w w1 : World) (hb1 : Below (w.alloc (.cells #[.int .i64 0, .bool false] 35)).heap.size (w.alloc (.cells #[.int .i64 0, .bool false] 35)) w1) :
    (w1.cell? ⟨w.heap.size, 0, none⟩ = some (.int .i64 0) ∧ w1.cell? ⟨w.heap.size, 1, none⟩ = some (.bool false) ∧ w1.frozen? ⟨w.heap.size, 0, none⟩ = false ∧ w1.frozen? ⟨w.heap.size, 1, none⟩ = false ∧ w.heap.size < w1.heap.size) ∧ Below w.heap.size w w1 := by
  have hs : w.heap.size < w1.heap.size := by have := hb1.size; simp at this; omega
  have hc := (hb1.block w.heap.size (by simp)).trans (heap_alloc_new w (.cells #[.int .i64 0, .bool false] 35))
  exact ⟨⟨by rw [cell_of_heap hc]; rfl, by rw [cell_of_heap hc]; rfl, frozen_of_heap hc, frozen_of_heap hc, hs⟩, (below_alloc w _).trans (hb1.mono (by simp))⟩

set_option maxHeartbeats 1000000 in
theorem kpage_at (h : KerAt w K Y n vs T F) (e p : Int) :
    Calls Tryz.prog 16 #[ptr K, .int .i64 e, .int .i64 p] w fun x w' => x = .returned (.tuple #[Mu.pv ((kpageV F e p).getD (0, false)), .bool (kpageV F e p).isSome]) ∧ Below w.heap.size w w' := by
  have hK := h.below (below_alloc w (.cells #[.int .i64 0, .bool false] 35))
  clear h
  cases he : isE e with
  | false =>
    have ht := ktable_no K e (w.alloc (.cells #[.int .i64 0, .bool false] 35)) he
    have HA : Hid (kpageV F e p = none) := by
      show _ = _
      simp [kpageV, he]
    clear he hK
    go_enter Tryz.func16, Tryz.ntmps16
    go_wp2_with fail
    refine ht.mono ?_
    rintro x w1 ⟨rfl, hw1⟩
    rw [hw1]
    clear hw1 w1
    go_wp2_with fail
    refine (Mu.at_nil _ _).mono ?_
    rintro x w1 ⟨rfl, hb1⟩
    obtain ⟨⟨c0, c1, f0, f1, hs⟩, hB⟩ := page_ret (0, false) false w w1 hb1
    have HB : Hid _ := hB
    clear hb1 hB ht
    unfold Mu.pv
    go_wp2_with fail
    (try simp only [Exit.inBlock, Exit.then])
    refine bodyPost_ret (v := .tuple #[.agg #[.int .i64 0, .bool false], .bool false]) ?_ rfl ⟨by rw [HA.out]; rfl, ?_⟩
    · rw [results_cell_tmp rfl]
      go_simp
    · (repeat' (first | exact HB.out | refine Below.setCell ?_ (by simp) _ | refine Below.alloc ?_ (by simp) _))
  | true =>
    obtain ⟨m, rfl, hm⟩ := isE_nat he
    have ht := ktable_yes hK m hm
    have ha := Mu.at_at _ _ _ p _ (hK.tbl m hm)
    have HA : Hid (kpageV F m p = F m p) := by
      show _ = _
      simp [kpageV, he]
    clear he hK
    generalize F m p = r at *
    have HG : Hid (∀ A B, r.getD (0, false) = (A, B) → r.getD (0, false) = (A, B)) := fun A B h => h
    generalize hg : r.getD (0, false) = y at *
    obtain ⟨f, b⟩ := y
    have HR : Hid _ := hg
    clear hg HG
    generalize hi : r.isSome = B at *
    have HI : Hid _ := hi
    clear hi
    unfold Mu.pv at ha
    go_enter Tryz.func16, Tryz.ntmps16
    go_wp2_with fail
    refine ht.mono ?_
    rintro x w1 ⟨rfl, hw1⟩
    rw [hw1]
    clear hw1 w1
    go_wp2_with fail
    refine ha.mono ?_
    rintro x w1 ⟨rfl, hb1⟩
    obtain ⟨⟨c0, c1, f0, f1, hs⟩, hB⟩ := page_ret (0, false) false w w1 hb1
    have HB : Hid _ := hB
    clear hb1 hB ht ha
    go_wp2_with fail
    (try simp only [Exit.inBlock, Exit.then])
    refine bodyPost_ret (v := .tuple #[.agg #[.int .i64 f, .bool b], .bool B]) ?_ rfl ⟨by rw [HA.out, HR.out, HI.out]; rfl, ?_⟩
    · rw [results_cell_tmp rfl]
      go_simp
    · (repeat' (first | exact HB.out | refine Below.setCell ?_ (by simp) _ | refine Below.alloc ?_ (by simp) _))

theorem kcopy_nil (e a b : Int) (w : World) :
    Calls Tryz.prog 42 #[.pointer none, .int .i64 e, .int .i64 a, .int .i64 b] w fun x w' => x = .returned (.int .i64 101) ∧ w' = w := by
  go_enter Tryz.func42, Tryz.ntmps42
  go_wp2
  go_ret
  exact ⟨rfl, rfl⟩
set_option maxHeartbeats 1000000 in
theorem kcopy_at (h : KerAt w K Y n vs T F) (e a b : Int) :
    Calls Tryz.prog 42 #[ptr K, .int .i64 e, .int .i64 a, .int .i64 b] w fun x w' => x = .returned (.int .i64 (kcopyR T n e a b)) ∧ KerAt w' K Y n (kcopyV T n vs e a b) T F ∧ UpdP (Foot Y) w w' := by
  have h1 := kframe_at h e a 2
  have h2 : ∀ W, KerAt W K Y n vs T F → _ := fun W hW => kframe_at (w := W) hW e b 1
  have HA : Hid (kcopyR T n e a b = (match frm T e a 2, frm T e b 1 with | some f, some g => Me.errC n f g | _, _ => 104) ∧ kcopyV T n vs e a b = match frm T e a 2, frm T e b 1 with | some f, some g => Me.putC n vs f g | _, _ => vs) := ⟨rfl, rfl⟩
  have HK : Hid _ := h
  clear h
  generalize frm T e a 2 = p at *
  generalize frm T e b 1 = q at *
  generalize kcopyR T n e a b = R at *
  generalize kcopyV T n vs e a b = vs' at *
  cases p with
  | none =>
    have HA2 : Hid (R = 104 ∧ vs' = vs) := HA.out
    clear HA
    cases q
    all_goals
      simp only [Option.getD_none, Option.isSome_none, Option.getD_some, Option.isSome_some] at h1 h2
      go_enter Tryz.func42, Tryz.ntmps42
      go_wp2_with fail
      refine h1.mono ?_
      rintro x w1 ⟨rfl, hb1⟩
      go_wp2_with fail
      refine (h2 w1 (HK.out.below hb1)).mono ?_
      rintro x w2 ⟨rfl, hb2⟩
      go_wp2_with fail
      go_ret
      exact ⟨by rw [HA2.out.1]; rfl, by rw [HA2.out.2]; exact (HK.out.below hb1).below hb2, UpdP.of_below (hb1.trans (hb2.mono hb1.size))⟩
  | some f =>
    cases q with
    | none =>
      have HA2 : Hid (R = 104 ∧ vs' = vs) := HA.out
      clear HA
      simp only [Option.getD_none, Option.isSome_none, Option.getD_some, Option.isSome_some] at h1 h2
      go_enter Tryz.func42, Tryz.ntmps42
      go_wp2_with fail
      refine h1.mono ?_
      rintro x w1 ⟨rfl, hb1⟩
      go_wp2_with fail
      refine (h2 w1 (HK.out.below hb1)).mono ?_
      rintro x w2 ⟨rfl, hb2⟩
      go_wp2_with fail
      go_ret
      exact ⟨by rw [HA2.out.1]; rfl, by rw [HA2.out.2]; exact (HK.out.below hb1).below hb2, UpdP.of_below (hb1.trans (hb2.mono hb1.size))⟩
    | some g =>
      have HA2 : Hid (R = Me.errC n f g ∧ vs' = Me.putC n vs f g) := HA.out
      clear HA
      have hcp : ∀ W, KerAt W K Y n vs T F → _ := fun W hW => Me.copy_all (W := W) hW.mem f g
      generalize Me.errC n f g = E at *
      simp only [Option.getD_some, Option.isSome_some] at h1 h2
      go_enter Tryz.func42, Tryz.ntmps42
      go_wp2_with fail
      refine h1.mono ?_
      rintro x w1 ⟨rfl, hb1⟩
      go_wp2_with fail
      refine (h2 w1 (HK.out.below hb1)).mono ?_
      rintro x w2 ⟨rfl, hb2⟩
      have hK2 := (HK.out.below hb1).below hb2
      have hc0 := hK2.k0
      have hr2 := hcp w2 hK2
      have H2 : Hid _ := hK2
      clear hK2 hcp h1 h2
      go_wp2_with fail
      refine hr2.mono ?_
      rintro x w3 ⟨rfl, hM3, hu3⟩
      have H3 : Hid _ := H2.out.updM hM3 hu3
      have HU : Hid (UpdP (Foot Y) w w3) := (UpdP.of_below (hb1.trans (hb2.mono hb1.size))).trans (hu3.p _ (Or.inl rfl))
      clear hM3 hu3 hr2 hc0
      go_wp2_with fail
      go_ret
      exact ⟨by rw [HA2.out.1]; rfl, by rw [HA2.out.2]; exact H3.out, HU.out⟩

theorem kread_nil (e s k : Int) (w : World) :
    Calls Tryz.prog 22 #[.pointer none, .int .i64 e, .int .i64 s, .int .i64 k] w fun x w' => x = .returned (.tuple #[.int .u64 0, .int .i64 101]) ∧ w' = w := by
  go_enter Tryz.func22, Tryz.ntmps22
  go_wp2
  go_ret2
  exact ⟨rfl, rfl⟩
theorem kread_at (h : KerAt w K Y n vs T F) (e s k : Int) :
    Calls Tryz.prog 22 #[ptr K, .int .i64 e, .int .i64 s, .int .i64 k] w fun x w' => x = .returned (.tuple #[.int .u64 (kreadR T n vs e s k).1, .int .i64 (kreadR T n vs e s k).2]) ∧ Below w.heap.size w w' := by
  have h1 := kframe_at h e s 1
  have HA : Hid (kreadR T n vs e s k = match frm T e s 1 with | none => (0, 104) | some f => (Me.valR n vs f k, Me.errW n f k)) := rfl
  have HK : Hid _ := h
  clear h
  generalize frm T e s 1 = p at *
  generalize kreadR T n vs e s k = R at *
  cases p with
  | none =>
    have HA2 : Hid (R = (0, 104)) := HA.out
    clear HA
    simp only [Option.getD_none, Option.isSome_none] at h1
    go_enter Tryz.func22, Tryz.ntmps22
    go_wp2_with fail
    refine h1.mono ?_
    rintro x w1 ⟨rfl, hb1⟩
    go_wp2_with fail
    go_ret2
    exact ⟨by rw [HA2.out]; rfl, hb1⟩
  | some f =>
    have HA2 : Hid (R = (Me.valR n vs f k, Me.errW n f k)) := HA.out
    clear HA
    have hrd : ∀ W, KerAt W K Y n vs T F → _ := fun W hW => Me.read_all (W := W) hW.mem f k
    generalize Me.valR n vs f k = V at *
    generalize Me.errW n f k = E at *
    simp only [Option.getD_some, Option.isSome_some] at h1
    go_enter Tryz.func22, Tryz.ntmps22
    go_wp2_with fail
    refine h1.mono ?_
    rintro x w1 ⟨rfl, hb1⟩
    have hK1 := HK.out.below hb1
    have hc0 := hK1.k0
    have hr1 := hrd w1 hK1
    clear hK1 hrd h1
    go_wp2_with fail
    refine hr1.mono ?_
    rintro x w2 ⟨rfl, hw2⟩
    rw [hw2]
    clear hw2 w2
    go_wp2_with fail
    go_ret2
    exact ⟨by rw [HA2.out]; rfl, hb1⟩

theorem kwrite_nil (e s k v : Int) (w : World) :
    Calls Tryz.prog 19 #[.pointer none, .int .i64 e, .int .i64 s, .int .i64 k, .int .u64 v] w fun x w' => x = .returned (.int .i64 101) ∧ w' = w := by
  go_enter Tryz.func19, Tryz.ntmps19
  go_wp2
  go_ret
  exact ⟨rfl, rfl⟩
theorem kwrite_at (h : KerAt w K Y n vs T F) (e s k v : Int) :
    Calls Tryz.prog 19 #[ptr K, .int .i64 e, .int .i64 s, .int .i64 k, .int .u64 v] w fun x w' => x = .returned (.int .i64 (kwriteR T n e s k)) ∧ KerAt w' K Y n (kwriteV T n vs e s k v) T F ∧ UpdP (Foot Y) w w' := by
  have h1 := kframe_at h e s 2
  have HA : Hid (kwriteR T n e s k = (match frm T e s 2 with | none => 104 | some f => Me.errW n f k) ∧ kwriteV T n vs e s k v = match frm T e s 2 with | none => vs | some f => Me.putW n vs f k v) := ⟨rfl, rfl⟩
  have HK : Hid _ := h
  clear h
  generalize frm T e s 2 = p at *
  generalize kwriteR T n e s k = R at *
  generalize kwriteV T n vs e s k v = vs' at *
  cases p with
  | none =>
    have HA2 : Hid (R = 104 ∧ vs' = vs) := HA.out
    clear HA
    simp only [Option.getD_none, Option.isSome_none] at h1
    go_enter Tryz.func19, Tryz.ntmps19
    go_wp2_with fail
    refine h1.mono ?_
    rintro x w1 ⟨rfl, hb1⟩
    go_wp2_with fail
    go_ret
    exact ⟨by rw [HA2.out.1]; rfl, by rw [HA2.out.2]; exact HK.out.below hb1, UpdP.of_below hb1⟩
  | some f =>
    have HA2 : Hid (R = Me.errW n f k ∧ vs' = Me.putW n vs f k v) := HA.out
    clear HA
    have hrd : ∀ W, KerAt W K Y n vs T F → _ := fun W hW => Me.write_all (W := W) hW.mem f k v
    generalize Me.errW n f k = E at *
    simp only [Option.getD_some, Option.isSome_some] at h1
    go_enter Tryz.func19, Tryz.ntmps19
    go_wp2_with fail
    refine h1.mono ?_
    rintro x w1 ⟨rfl, hb1⟩
    have hK1 := HK.out.below hb1
    have hc0 := hK1.k0
    have hr1 := hrd w1 hK1
    have H1 : Hid _ := hK1
    clear hK1 hrd h1
    go_wp2_with fail
    refine hr1.mono ?_
    rintro x w2 ⟨rfl, hM2, hu2⟩
    have H2 : Hid _ := H1.out.updM hM2 hu2
    have HU : Hid (UpdP (Foot Y) w w2) := (UpdP.of_below hb1).trans (hu2.p _ (Or.inl rfl))
    clear hM2 hu2 hr1 hc0
    go_wp2_with fail
    go_ret
    exact ⟨by rw [HA2.out.1]; rfl, by rw [HA2.out.2]; exact H2.out, HU.out⟩
end

theorem knew_no (n : Int) (w : World) (h : n < 1 ∨ 1024 < n) :
    Calls Tryz.prog 6 #[.int .i64 n] w fun x w' => x = .returned (.pointer none) ∧ w' = w := by
  have hm := Me.new_no n w h
  clear h
  go_enter Tryz.func6, Tryz.ntmps6
  go_wp2_with fail
  refine hm.mono ?_
  rintro x w1 ⟨rfl, rfl⟩
  go_wp2_with fail
  go_ret
  exact ⟨rfl, rfl⟩

/-- What New leaves, the tables under k. -/
structure Newing (w wr : World) (K mb cb : Nat) (n : Nat) (tb mp : Nat → Nat) (k : Nat) : Prop where
  head : HeadAt wr K mb cb tb k
  mem : Me.MemAt wr mb w.heap.size n (List.replicate (n * 32) 0)
  caps : CapsAt wr cb (fun _ => Hd.no)
  tbl : ∀ e, e < k → Mu.TblAt wr (tb e) (mp e) (fun _ => none)
  far : ∀ e, e < k → K < mp e ∧ K < tb e
  inj : ∀ i j, i < k → j < k → mp i = mp j → i = j
  old : Below w.heap.size w wr
  mbw : w.heap.size ≤ mb
  cbw : w.heap.size ≤ cb
  Kw : w.heap.size ≤ K
  cbK : cb < K
  mbc : mb < cb

theorem Newing.lt {w wr : World} {K mb cb n k : Nat} {tb mp : Nat → Nat} (h : Newing w wr K mb cb n tb mp k) : K < wr.heap.size := h.head.lt
theorem Newing.cell {w wr : World} {K mb cb n k : Nat} {tb mp : Nat → Nat} (h : Newing w wr K mb cb n tb mp k) (hk : k < 12) : wr.cell? ⟨K, 2 + k, none⟩ = some (.pointer none) ∧ wr.frozen? ⟨K, 2 + k, none⟩ = false := by
  obtain ⟨row, hr, _, _, _, _, h3⟩ := h.head
  exact ⟨by rw [cell_of_heap hr]; exact h3 k (Nat.le_refl _) hk, frozen_of_heap hr⟩
theorem Newing.below {w wr w' : World} {K mb cb n k : Nat} {tb mp : Nat → Nat} (h : Newing w wr K mb cb n tb mp k) (hb : Below wr.heap.size wr w') : Newing w w' K mb cb n tb mp k :=
  ⟨h.head.keep (hb.block _ h.lt), h.mem.below hb, h.caps.below hb, fun e he => (h.tbl e he).below hb, h.far, h.inj, h.old.trans (hb.mono h.old.size), h.mbw, h.cbw, h.Kw, h.cbK, h.mbc⟩
theorem Newing.step {w w1 : World} {K mb cb n k t m : Nat} {tb mp : Nat → Nat} (h : Newing w w1 K mb cb n tb mp k) (hk : k < 12) (ht : Mu.TblAt w1 t m (fun _ => none)) (h1 : K < t) (h2 : K < m) (h3 : ∀ e, e < k → mp e < m) :
    Newing w (w1.setCell ⟨K, 2 + k, none⟩ (ptr t)) K mb cb n (fun e => if e = k then t else tb e) (fun e => if e = k then m else mp e) (k + 1) := by
  have hw := h.mbw
  have hc := h.cbK
  have hm := h.mbc
  have hu := Upd.setCell K (2 + k) w1 (ptr t)
  refine ⟨h.head.set hk t, h.mem.keep (hu.block _ (lt_of_heap h.mem.head) (by omega)) (hu.block _ (lt_of_heap h.mem.row) (by omega)), h.caps.keep (hu.block _ h.caps.lt (by omega)), fun e he => ?_, fun e he => ?_, fun i j hi hj hij => ?_, h.old.trans (hu.below h.Kw h.old.size), h.mbw, h.cbw, h.Kw, h.cbK, h.mbc⟩
  · by_cases e1 : e = k
    · rw [if_pos e1, if_pos e1]
      exact ht.keep (hu.block _ ht.lt (by omega)) (hu.block _ ht.mlt (by omega))
    · rw [if_neg e1, if_neg e1]
      have := h.far e (by omega)
      have hte := h.tbl e (by omega)
      exact hte.keep (hu.block _ hte.lt (by omega)) (hu.block _ hte.mlt (by omega))
  · by_cases e1 : e = k
    · rw [if_pos e1, if_pos e1]
      exact ⟨h2, h1⟩
    · rw [if_neg e1, if_neg e1]
      exact h.far e (by omega)
  · by_cases e1 : i = k <;> by_cases e2 : j = k
    · omega
    · rw [if_pos e1, if_neg e2] at hij
      have := h3 j (by omega)
      omega
    · rw [if_neg e1, if_pos e2] at hij
      have := h3 i (by omega)
      omega
    · rw [if_neg e1, if_neg e2] at hij
      exact h.inj i j (by omega) (by omega) hij

set_option maxHeartbeats 4000000 in
theorem knew_at (n : Int) (w : World) (h1 : 1 ≤ n) (h2 : n ≤ 1024) :
    Calls Tryz.prog 6 #[.int .i64 n] w fun x w' => ∃ K Y, x = .returned (ptr K) ∧ KerAt w' K Y n.toNat (List.replicate (n.toNat * 32) 0) (fun _ => Hd.no) (fun _ _ => none) ∧ Below w.heap.size w w' ∧ w.heap.size ≤ K ∧ ∀ b, Foot Y b → w.heap.size ≤ b := by
  have hm := Me.new_at n w h1 h2
  have HN : Hid (1 ≤ n.toNat ∧ n.toNat ≤ 1024) := ⟨by omega, by omega⟩
  clear h1 h2
  go_enter Tryz.func6, Tryz.ntmps6
  go_wp2_with fail
  refine hm.mono ?_
  rintro x w1 ⟨rfl, hM1, hb1, hs1⟩
  go_wp2_with fail
  refine (Ca.new_at w1).mono ?_
  rintro x w2 ⟨rfl, hC2, hb2, hs2⟩
  obtain ⟨W, hW⟩ : ∃ W, W = w2.alloc (.cells #[.pointer (some ⟨w.heap.size + 1, 0, none⟩), .pointer (some ⟨w1.heap.size, 0, none⟩), .pointer none, .pointer none, .pointer none, .pointer none, .pointer none, .pointer none, .pointer none, .pointer none, .pointer none, .pointer none, .pointer none, .pointer none] 58) := ⟨_, rfl⟩
  have hbW : Below w2.heap.size w2 W := by rw [hW]; exact below_alloc _ _
  have HI : Hid (Newing w W w2.heap.size (w.heap.size + 1) w1.heap.size n.toNat (fun _ => 0) (fun _ => 0) 0) := by
    refine ⟨⟨_, by rw [hW]; exact heap_alloc_new _ _, rfl, rfl, rfl, fun e he => by omega, fun e h3 h4 => ?_⟩, (hM1.below hb2).below hbW, hC2.below hbW, fun e he => by omega, fun e he => by omega, fun i j hi => by omega, (hb1.trans (hb2.mono hb1.size)).trans (hbW.mono (by have := hb1.size; have := hb2.size; omega)), by omega, hb1.size, by have := hb1.size; have := hb2.size; omega, by omega, by omega⟩
    match e, h4 with
    | 0, _ => rfl
    | 1, _ => rfl
    | 2, _ => rfl
    | 3, _ => rfl
    | 4, _ => rfl
    | 5, _ => rfl
    | 6, _ => rfl
    | 7, _ => rfl
    | 8, _ => rfl
    | 9, _ => rfl
    | 10, _ => rfl
    | 11, _ => rfl
  clear hM1 hb1 hs1 hC2 hb2 hs2 hbW
  go_wp2_with fail
  rw [← hW]
  clear hW hm
  generalize w2.heap.size = K at *
  generalize w1.heap.size = cb at *
  go_loopw [14] (fun s wr => ∃ (k : Nat) (tb mp : Nat → Nat), k ≤ 12 ∧ s = .int .i64 k ∧ Newing w wr K (w.heap.size + 1) cb n.toNat tb mp k) (fun s _ => 12 - (intOf s).toNat)
  case atStart => exact ⟨0, _, _, by omega, rfl, HI.out⟩
  case round =>
    clear HI
    obtain ⟨k, tb, mp, hk', rfl, hN⟩ := hrel
    by_cases hk : k < 12
    · have i1 : decide ((k : Int) < 12) = true := decide_eq_true (by omega)
      have i2 : (k : Int) < 12 := by omega
      have HW : Hid _ := hN
      have hnew := Mu.new_any wr.drew
      clear hN
      go_wp2_with fail
      refine wp_region_held_drew (S := fun w' => True) (by kernel_rfl) trivial (fun hHeld => ?_)
      refine wpAnyH_take (i := 0) (v := ?_) rfl (by kernel_rfl) (by kernel_rfl) (by kernel_rfl) (fun _ _ _ h => h) (Or.inl ⟨by kernel_rfl, ?_⟩) (by assumption) ?_
      rotate_left
      · (intro w hSw; (try dsimp only at hSw); go_simp) <;> with_reducible rfl
      (try simp only [Act.put, List.getElem_toArray, List.getElem_cons_zero, List.setIfInBounds_toArray, List.set_cons_zero, List.set_cons_succ])
      refine wpAnyH_take (i := 1) (v := ?_) rfl (by kernel_rfl) (by kernel_rfl) (by kernel_rfl) (fun _ _ _ h => h) (Or.inl ⟨by kernel_rfl, ?_⟩) (by assumption) ?_
      rotate_left
      · (intro w hSw; (try dsimp only at hSw); go_simp) <;> with_reducible rfl
      (try simp only [Act.put, List.getElem_toArray, List.getElem_cons_zero, List.getElem_cons_succ, List.setIfInBounds_toArray, List.set_cons_zero, List.set_cons_succ])
      refine wpAnyH_take (i := 3) (v := ?_) rfl (by kernel_rfl) (by kernel_rfl) (by kernel_rfl) (fun _ _ _ h => h) (Or.inl ⟨by kernel_rfl, ?_⟩) (by assumption) ?_
      rotate_left
      · (intro w hSw; (try dsimp only at hSw); go_simp) <;> with_reducible rfl
      (try simp only [Act.put, List.getElem_toArray, List.getElem_cons_zero, List.getElem_cons_succ, List.setIfInBounds_toArray, List.set_cons_zero, List.set_cons_succ])
      refine wpAnyH_take (i := 4) (v := ?_) rfl (by kernel_rfl) (by kernel_rfl) (by kernel_rfl) (fun _ _ _ h => h) (Or.inl ⟨by kernel_rfl, ?_⟩) (by assumption) ?_
      rotate_left
      · (intro w hSw; (try dsimp only at hSw); go_simp) <;> with_reducible rfl
      (try simp only [Act.put, List.getElem_toArray, List.getElem_cons_zero, List.getElem_cons_succ, List.setIfInBounds_toArray, List.set_cons_zero, List.set_cons_succ])
      refine wpAnyH_ready (rs := [2]) (by kernel_rfl) (by simp) ?_
      refine AllReadyH.cons rfl (fun K hK => ?_) AllReadyH.nil
      go_simp
      refine hnew.mono ?_
      rintro x w3 ⟨rfl, ht3, hb3⟩
      refine hK.out _ _ trivial (fun hHeld => ?_)
      clear hK K
      (try simp only [Act.put, List.getElem_toArray, List.getElem_cons_zero, List.getElem_cons_succ, List.setIfInBounds_toArray, List.set_cons_zero, List.set_cons_succ])
      refine wpAnyH_take (i := 5) (v := ?_) rfl (by kernel_rfl) (by kernel_rfl) (by kernel_rfl) (fun _ _ _ h => h) (Or.inl ⟨by kernel_rfl, ?_⟩) (by assumption) ?_
      rotate_left
      · (intro w hSw; (try dsimp only at hSw); go_simp) <;> with_reducible rfl
      (try simp only [Act.put, List.getElem_toArray, List.getElem_cons_zero, List.getElem_cons_succ, List.setIfInBounds_toArray, List.set_cons_zero, List.set_cons_succ])
      have hN3 := HW.out.below (w' := w3) ⟨hb3.os, hb3.tape, hb3.output, hb3.size, hb3.block⟩
      obtain ⟨c3, f3⟩ := hN3.cell hk
      have HS : Hid _ := hN3.step hk ht3 (by have := HW.out.lt; show K < wr.heap.size + 1; omega) (by have := HW.out.lt; show K < wr.heap.size; omega) (fun e he => (HW.out.tbl e he).mlt)
      clear hN3 ht3 hb3 hnew
      refine wpAnyH_ready (rs := [6]) (by kernel_rfl) (by simp) ?_
      refine AllReadyH.cons rfl (fun K hK => ?_) AllReadyH.nil
      go_simp
      refine hK.out _ _ trivial (fun hHeld => ?_)
      clear hK K
      (try simp only [Act.put, List.getElem_toArray, List.getElem_cons_zero, List.getElem_cons_succ, List.setIfInBounds_toArray, List.set_cons_zero, List.set_cons_succ])
      refine wpAnyH_done (by kernel_rfl) ?_ _
      go_wp2_with fail
      go_roundw
      case rel => exact ⟨k + 1, _, _, by omega, by go_num, HS.out⟩
      case measure => simp [intOf]; omega
    · obtain rfl : k = 12 := by omega
      go_wp2
      go_ret
      refine ⟨K, ⟨w.heap.size + 1, w.heap.size, cb, tb, mp⟩, rfl, ⟨hN.head, hN.mem, hN.caps, hN.tbl, hN.inj, KInv.zero _, HN.out.1, HN.out.2, fun e he p x hx => by cases hx⟩, hN.old, hN.Kw, ?_⟩
      have h1 := hN.Kw
      rintro b (e | e | ⟨i, hi, e⟩)
      · rw [e]; exact Nat.le_refl _
      · rw [e]; exact hN.cbw
      · have := hN.far i hi
        rw [e]
        show w.heap.size ≤ mp i
        omega
end Go.Proofs.YtfnafjddajgahaaGreat
