/- The kernel of blocks: Sync, New; Views. -/
import Derived.Test.YtfnafjddajgahabXdE
namespace Go.Proofs.Ytfnafjddajgahab
open Go.RowKit Ca
set_option linter.unusedVariables false

section
variable {w w' : World} {K : Nat} {Y : Yd} {n m : Nat} {vs : List Int} {l : Lines} {T : Tab}
theorem xsync_at (h : KAt w K Y n m vs l T) (hm : m ≤ 900000) :
    Calls Try.prog 10 #[ptr K] w fun x w' => x = .returned (.int .i64 (syncN l n)) ∧ KAt w' K Y n (m + n) (syncV l vs n) (syncL l n) T ∧ UpdP (XFoot Y) w w' := by
  have hs := xcsync_at h hm
  clear h
  generalize syncN l n = z at *
  generalize syncV l vs n = vs' at *
  generalize syncL l n = l' at *
  go_enter Try.func10, Try.ntmps10
  go_wp2_with fail
  refine hs.mono ?_
  rintro x w1 ⟨rfl, hK1, hu1⟩
  have HK : Hid _ := hK1
  have HU : Hid _ := hu1
  clear hK1 hu1 hs
  go_wp2
  go_ret
  exact ⟨rfl, HK.out, HU.out⟩

/-- The lines of a new cache. -/
def L0 : Lines := fun _ => (none, false)
theorem lineInfo : (Try.prog.info? 91).map (fun i => (i.zero, i.size, i.bytes)) = some (some (.agg #[.slice none 0 0, .bool false]), 2, 32) := by kernel_rfl
theorem make_lines (n : Nat) (h : n ≤ 1024) (w : World) :
    (Instr.makeSlice 56 (.int .i64 (n : Int)) (.int .i64 (n : Int))).run Try.prog w = .ok (.slice (some ⟨w.heap.size, 0, none⟩) n n) (w.alloc (.cells (madeCells #[.slice none 0 0, .bool false] (n * 2)) 91)) := by
  obtain ⟨i, hi, hzz⟩ := Option.map_eq_some_iff.1 lineInfo
  simp only [Prod.mk.injEq] at hzz
  obtain ⟨h1, h2, h3⟩ := hzz
  have hr := run_make (P := Try.prog) w 56 91 i _ Try.underlying56 hi h1 .i64 .i64 n n (by omega) (by omega) (by rw [h3]; omega) (by omega)
  simp only [Int.toNat_natCast] at hr
  rw [hr, h2]
  rfl
theorem made_lines {q n : Nat} (hq : w.heap[q]? = some (.cells (madeCells #[.slice none 0 0, .bool false] (n * 2)) 91)) (M : Nat) : LinesAt M w q n L0 := by
  refine ⟨_, hq, size_madeCells _ _, fun i hi => ⟨.slice none 0 0, ?_, ?_, fun _ => rfl, fun ws e => (by cases e)⟩⟩
  · have h1 : i * 2 < n * 2 := by omega
    have h2 : i * 2 % 2 = 0 := by omega
    simp [madeCells, h1, h2]
  · have h1 : i * 2 + 1 < n * 2 := by omega
    have h2 : (i * 2 + 1) % 2 = 1 := by omega
    simp [madeCells, h1, h2, L0]
theorem LInv.zero (n : Nat) : LInv n L0 := ⟨fun i _ h => (by cases h), fun i _ ws h => (by cases h)⟩

set_option maxRecDepth 100000 in
set_option maxHeartbeats 1000000 in
theorem xcache_at (n b : Nat) (h : n ≤ 1024) (w : World) :
    Calls Try.prog 23 #[sto b, .int .i64 n] w fun x w' => ∃ q, x = .returned (.agg #[sto b, .slice (some ⟨q, 0, none⟩) n n]) ∧ (∀ M, LinesAt M w' q n L0) ∧ Below w.heap.size w w' ∧ w.heap.size ≤ q := by
  have hmk := fun w => make_lines n h w
  obtain ⟨C, hC⟩ : ∃ C, C = madeCells #[.slice none 0 0, .bool false] (n * 2) := ⟨_, rfl⟩
  rw [← hC] at hmk
  have HC : Hid _ := hC
  clear hC h
  go_enter Try.func23, Try.ntmps23
  go_wp2
  have hb1 := below_alloc2 w (Obj.cells #[sto b, Value.slice (some ⟨w.heap.size + 1, 0, none⟩) n n] 58) (Obj.cells C 91)
  have e1 : ((w.alloc (Obj.cells #[sto b, Value.slice (some ⟨w.heap.size + 1, 0, none⟩) n n] 58)).alloc (Obj.cells C 91)).heap[w.heap.size]? = some (Obj.cells #[sto b, Value.slice (some ⟨w.heap.size + 1, 0, none⟩) n n] 58) :=
    (Below.heap_alloc _ _ _ (by simp)).trans (heap_alloc_new _ _)
  have e2 := heap_alloc_new (w.alloc (Obj.cells #[sto b, Value.slice (some ⟨w.heap.size + 1, 0, none⟩) n n] 58)) (Obj.cells C 91)
  rw [World.size_alloc] at e2
  refine bodyPost_ret (v := .agg #[sto b, .slice (some ⟨w.heap.size + 1, 0, none⟩) n n]) ?_ rfl ⟨w.heap.size + 1, rfl, made_lines (by rw [e2, HC.out]), hb1, by omega⟩
  rw [results_cell_row rfl _ _ w.heap.size 58 #[sto b, .slice (some ⟨w.heap.size + 1, 0, none⟩) n n] (0, 0) _ rfl e1 Try.underlying58 rfl (by kernel_rfl)]
theorem xnewDisk_at (n : Int) (w : World) (h : 1 ≤ n) (h2 : n ≤ 1024) :
    Calls Try.prog 22 #[.int .i64 n] w fun x w' => x = .returned (sto (w.heap.size + 1)) ∧
      Di.DiskAt w' (w.heap.size + 1) w.heap.size n.toNat (List.replicate (n.toNat * 32) 0) 0 0 ∧ Below w.heap.size w w' ∧ w'.heap.size = w.heap.size + 2 := by
  have hn := Di.new_at n w h h2
  clear h h2
  go_enter Try.func22, Try.ntmps22
  go_wp2_with fail
  refine hn.mono ?_
  rintro x w1 ⟨rfl, hd, hb, hs⟩
  have HD : Hid _ := hd
  have HB : Hid _ := hb
  have HS : Hid _ := hs
  clear hd hb hs hn
  go_wp2
  go_ret
  exact ⟨rfl, HD.out, HB.out, HS.out⟩
theorem xnewDisk_no (n : Int) (w : World) (h : n < 1 ∨ 1024 < n) :
    Calls Try.prog 22 #[.int .i64 n] w fun x w' => x = .returned .nilIface ∧ w' = w := by
  have hn := Di.new_no n w h
  clear h
  go_enter Try.func22, Try.ntmps22
  go_wp2_with fail
  refine hn.mono ?_
  rintro x w1 ⟨rfl, rfl⟩
  go_wp2
  go_ret
  exact ⟨rfl, rfl⟩
theorem xnew_no (n : Int) (w : World) (h : n < 1 ∨ 1024 < n) :
    Calls Try.prog 6 #[.int .i64 n] w fun x w' => x = .returned (.pointer none) ∧ w' = w := by
  have hn := xnewDisk_no n w h
  have hni : ∀ W : World, (binOp BinOp.eql 54 .nilIface .nilIface).run Try.prog W = .ok (.bool true) W := fun W => by kernel_rfl
  clear h
  go_enter Try.func6, Try.ntmps6
  go_wp2_with fail
  refine hn.mono ?_
  rintro x w1 ⟨rfl, rfl⟩
  go_wp2
  go_ret
  exact ⟨rfl, rfl⟩
set_option maxHeartbeats 1000000 in
theorem xnew_at (n : Int) (w : World) (h1 : 1 ≤ n) (h2 : n ≤ 1024) :
    Calls Try.prog 6 #[.int .i64 n] w fun x w' => ∃ K Y, x = .returned (ptr K) ∧ KAt w' K Y n.toNat 0 (List.replicate (n.toNat * 32) 0) L0 (fun _ => Hd.no) ∧ Below w.heap.size w w' ∧ w.heap.size ≤ K ∧ ∀ b, XFoot Y b → w.heap.size ≤ b := by
  obtain ⟨n, rfl⟩ := nat_of n (by omega)
  simp only [Int.toNat_natCast]
  have hn := xnewDisk_at n w h1 h2
  have hni := sto_nil
  have HN : Hid (1 ≤ n ∧ n ≤ 1024) := ⟨by omega, by omega⟩
  clear h1 h2
  go_enter Try.func6, Try.ntmps6
  go_wp2_with fail
  refine hn.mono ?_
  rintro x w1 ⟨rfl, hd, hb, hs⟩
  have HD : Hid _ := hd
  have HB : Hid _ := hb
  have HS : Hid _ := hs
  clear hd hb hs hn
  obtain ⟨B, hBB⟩ : ∃ B, B = w.heap.size + 1 := ⟨_, rfl⟩
  rw [← hBB] at HD ⊢
  have HBB : Hid _ := hBB
  clear hBB
  go_wp2_with fail
  refine (xcache_at n B HN.out.2 w1).mono ?_
  rintro x w2 ⟨q, rfl, hl2, hb2, hq2⟩
  have HL2 : Hid _ := hl2
  have HB2 : Hid _ := hb2
  have HQ2 : Hid _ := hq2
  clear hl2 hb2 hq2
  go_wp2_with fail
  refine (Ca.new_at w2).mono ?_
  rintro x w3 ⟨rfl, hc3, hb3, hs3⟩
  have HC3 : Hid _ := hc3
  have HB3 : Hid _ := hb3
  have HS3 : Hid _ := hs3
  clear hc3 hb3 hs3
  obtain ⟨W, hW⟩ : ∃ W, W = w3.alloc (.cells #[sto B, sto B, .slice (some ⟨q, 0, none⟩) n n, ptr w2.heap.size] 63) := ⟨_, rfl⟩
  have hbW : Below w3.heap.size w3 W := by rw [hW]; exact below_alloc _ _
  have hhW : W.heap[w3.heap.size]? = some (.cells #[sto B, sto B, .slice (some ⟨q, 0, none⟩) n n, ptr w2.heap.size] 63) := by rw [hW]; exact heap_alloc_new _ _
  have HW : Hid _ := hbW
  have HHW : Hid _ := hhW
  clear hbW hhW
  go_wp2
  rw [← hW]
  clear hW
  go_ret
  have s1 := HB.out.size
  have s2 := HB2.out.size
  have s3 := HB3.out.size
  have hd := HD.out
  have hsB : B < w1.heap.size := lt_of_heap hd.head
  simp only [Int.toNat_natCast] at hd
  have hB' : w.heap.size ≤ B := by
    rcases Nat.lt_or_ge B w.heap.size with hlt | hge
    · exact absurd hlt (by have := HBB.out; omega)
    · exact hge
  refine ⟨w3.heap.size, ⟨B, w.heap.size, q, w2.heap.size, w.heap.size⟩, rfl, ⟨HHW.out, ⟨0, 0, (((hd.below HB2.out).below HB3.out).below HW.out), Nat.le_refl _, Nat.le_refl _⟩, ?_, HC3.out.below HW.out, XInv.zero n, LInv.zero n, HN.out.1, HN.out.2, (show w.heap.size ≤ _ by have := HW.out.size; omega)⟩, ?_, by omega, ?_⟩
  · have := LinesAt.keep (LinesAt.keep (HL2.out w.heap.size) (HB3.out.block _ (LinesAt.lt (HL2.out w.heap.size))) (UpdP.of_below (P := fun _ => False) HB3.out) (fun _ e => e.elim)) (HW.out.block _ (by have := LinesAt.lt (HL2.out w.heap.size); omega)) (UpdP.of_below (P := fun _ => False) HW.out) (fun _ e => e.elim)
    exact this
  · exact ((HB.out.trans (HB2.out.mono s1)).trans (HB3.out.mono (by omega))).trans (HW.out.mono (by omega))
  · have := HQ2.out
    rintro b (e | e | e | e)
    · rw [e]; show _ ≤ q; omega
    · rw [e]; exact hB'
    · rw [e]; exact Nat.le_refl _
    · rw [e]; show _ ≤ w2.heap.size; omega

/-- Of a cache without a line all that comes lies from another block on. -/
theorem KAt.raise {w : World} {K : Nat} {Y : Yd} {n m : Nat} {vs : List Int} {T : Tab} (h : KAt w K Y n m vs L0 T) (M : Nat) (hM : M ≤ w.heap.size) : KAt w K ⟨Y.b, Y.g, Y.q, Y.cb, M⟩ n m vs L0 T := by
  obtain ⟨row, hr, hs, hc⟩ := h.lines
  exact ⟨h.head, h.disk, ⟨row, hr, hs, fun i hi => by obtain ⟨v, h1, h2, h3⟩ := hc i hi; exact ⟨v, h1, h2, h3.1, fun ws e => (by cases e)⟩⟩, h.caps, h.inv, h.linv, h.n1, h.n2, hM⟩
/-- Block V is a View. -/
def VAt (w : World) (V K : Nat) (e s : Int) : Prop := w.heap[V]? = some (.cells #[ptr K, .int .i64 e, .int .i64 s] 71)
theorem xview_at (K : Nat) (e s : Int) (w : World) :
    Calls Try.prog 16 #[ptr K, .int .i64 e, .int .i64 s] w fun x w' => x = .returned (ptr w.heap.size) ∧ VAt w' w.heap.size K e s ∧ Below w.heap.size w w' ∧ w'.heap.size = w.heap.size + 1 := by
  go_enter Try.func16, Try.ntmps16
  go_wp2
  go_ret
  exact ⟨rfl, heap_alloc_new _ _, below_alloc _ _, by simp⟩
def findR (T : Tab) (e s b r : Int) : Int := if hasR T e s r = true then (if 0 ≤ b ∧ b < (getT T e s).len then 0 else 101) else 104
def findA (T : Tab) (e s b r : Int) : Int := if hasR T e s r = true then (if 0 ≤ b ∧ b < (getT T e s).len then (getT T e s).id + b else 0) else 0
theorem set4_heap {w : World} {B : Nat} {t : TypeId} {a b c d : Value} (h : w.heap[B]? = some (.cells #[a, b, c, d] t)) (x y z u : Value) :
    ((((w.setCell ⟨B, 0, none⟩ x).setCell ⟨B, 1, none⟩ y).setCell ⟨B, 2, none⟩ z).setCell ⟨B, 3, none⟩ u).heap[B]? = some (.cells #[x, y, z, u] t) := by
  have h1 : (w.setCell ⟨B, 0, none⟩ x).heap[B]? = some (.cells #[x, b, c, d] t) := by rw [setCell_eq_setRow w B _ _ _ _ _ h, setRow_heap w B _ _ _ _ h]; rfl
  have h2 : ((w.setCell ⟨B, 0, none⟩ x).setCell ⟨B, 1, none⟩ y).heap[B]? = some (.cells #[x, y, c, d] t) := by rw [setCell_eq_setRow _ B _ _ _ _ _ h1, setRow_heap _ B _ _ _ _ h1]; rfl
  have h3 : (((w.setCell ⟨B, 0, none⟩ x).setCell ⟨B, 1, none⟩ y).setCell ⟨B, 2, none⟩ z).heap[B]? = some (.cells #[x, y, z, d] t) := by rw [setCell_eq_setRow _ B _ _ _ _ _ h2, setRow_heap _ B _ _ _ _ h2]; rfl
  rw [setCell_eq_setRow _ B _ _ _ _ _ h3, setRow_heap _ B _ _ _ _ h3]; rfl
theorem find_ways (T : Tab) (n : Nat) (hI : XInv T n) (e s b r : Int) :
    (hasR T e s r = false ∧ findA T e s b r = 0 ∧ findR T e s b r = 104) ∨ (hasR T e s r = true ∧ b < 0 ∧ findA T e s b r = 0 ∧ findR T e s b r = 101) ∨
    (hasR T e s r = true ∧ 0 ≤ b ∧ (extC T e s r).len ≤ b ∧ findA T e s b r = 0 ∧ findR T e s b r = 101) ∨ (hasR T e s r = true ∧ 0 ≤ b ∧ b < (extC T e s r).len ∧ findA T e s b r = (extC T e s r).id + b ∧ findR T e s b r = 0 ∧ 0 ≤ (extC T e s r).id ∧ (extC T e s r).id + (extC T e s r).len ≤ n) := by
  unfold findA findR extC
  cases hr : hasR T e s r with
  | false => exact Or.inl ⟨rfl, rfl, rfl⟩
  | true =>
    have ho : OkX n (getT T e s) := by
      simp only [hasR, Bool.and_eq_true] at hr
      exact hI.get hr.1
    by_cases h0 : 0 ≤ b
    · by_cases h1 : b < (getT T e s).len
      · exact Or.inr (Or.inr (Or.inr ⟨rfl, h0, h1, by simp [h0, h1], by simp [h0, h1], ho.2.1, ho.2.2.2.1⟩))
      · exact Or.inr (Or.inr (Or.inl ⟨rfl, h0, by simp only [if_true]; omega, by simp [h1], by simp [h1]⟩))
    · exact Or.inr (Or.inl ⟨rfl, by omega, by simp [h0], by simp [h0]⟩)
set_option maxRecDepth 100000 in
set_option maxHeartbeats 4000000 in
theorem xfind_at {K0 : Nat} (h : KAt w K0 Y n m vs l T) {V : Nat} {e s : Int} (hV : VAt w V K0 e s) (b r : Int) (hb : I64 b) :
    Calls Try.prog 34 #[ptr V, .int .i64 b, .int .i64 r] w fun x w' => x = .returned (.tuple #[.int .i64 (findA T e s b r), .int .i64 (findR T e s b r)]) ∧ Below w.heap.size w w' := by
  have hx : ∀ W : World, Below w.heap.size w W → _ := fun W hW => xext_at (h.below hW) e s r
  have v0 := cell_of_heap (i := 0) hV
  have v1 := cell_of_heap (i := 1) hV
  have v2 := cell_of_heap (i := 2) hV
  simp only [List.getElem?_toArray, List.getElem?_cons_zero, List.getElem?_cons_succ] at v0 v1 v2
  have HWs : Hid _ := find_ways T n h.inv e s b r
  have HV : Hid (VAt w V K0 e s) := hV
  have hn := h.n2
  obtain ⟨b1, b2⟩ := hb
  have hdr : Below w.heap.size w w.drew := ⟨rfl, rfl, rfl, Nat.le_refl _, fun _ _ => rfl⟩
  have HDr : Hid _ := hdr
  have HX : Hid _ := hx
  clear h hV hx hdr
  generalize findA T e s b r = A at *
  generalize findR T e s b r = R at *
  generalize extC T e s r = C at *
  generalize hasR T e s r = B at *
  obtain ⟨k, i, q, p⟩ := C
  dsimp only [cpRow] at *
  go_enter Try.func34, Try.ntmps34
  go_wp2_with fail
  refine wp_region_held_drew (S := fun w' => w'.cell? ⟨V, 0, none⟩ = some (ptr K0) ∧ w'.cell? ⟨V, 1, none⟩ = some (.int .i64 e) ∧ w'.cell? ⟨V, 2, none⟩ = some (.int .i64 s)) (by kernel_rfl) ⟨v0, v1, v2⟩ (fun hHeld => ?_)
  refine wpAnyH_take (i := 0) (v := ?_) rfl (by kernel_rfl) (by kernel_rfl) (by kernel_rfl) (fun _ _ _ h => h) (Or.inl ⟨by kernel_rfl, ?_⟩) (by assumption) ?_
  rotate_left
  · (intro w hSw; (try dsimp only at hSw); go_simp) <;> with_reducible rfl
  (try simp only [Act.put, List.getElem_toArray, List.getElem_cons_zero, List.setIfInBounds_toArray, List.set_cons_zero, List.set_cons_succ])
  refine wpAnyH_take (i := 1) (v := ?_) rfl (by kernel_rfl) (by kernel_rfl) (by kernel_rfl) (fun _ _ _ h => h) (Or.inl ⟨by kernel_rfl, ?_⟩) (by assumption) ?_
  rotate_left
  · (intro w hSw; (try dsimp only at hSw); go_simp) <;> with_reducible rfl
  (try simp only [Act.put, List.getElem_toArray, List.getElem_cons_zero, List.getElem_cons_succ, List.setIfInBounds_toArray, List.set_cons_zero, List.set_cons_succ])
  refine wpAnyH_take (i := 2) (v := ?_) rfl (by kernel_rfl) (by kernel_rfl) (by kernel_rfl) (fun _ _ _ h => h) (Or.inl ⟨by kernel_rfl, ?_⟩) (by assumption) ?_
  rotate_left
  · (intro w hSw; (try dsimp only at hSw); go_simp) <;> with_reducible rfl
  (try simp only [Act.put, List.getElem_toArray, List.getElem_cons_zero, List.getElem_cons_succ, List.setIfInBounds_toArray, List.set_cons_zero, List.set_cons_succ])
  refine wpAnyH_take (i := 3) (v := ?_) rfl (by kernel_rfl) (by kernel_rfl) (by kernel_rfl) (fun _ _ _ h => h) (Or.inl ⟨by kernel_rfl, ?_⟩) (by assumption) ?_
  rotate_left
  · (intro w hSw; (try dsimp only at hSw); go_simp) <;> with_reducible rfl
  (try simp only [Act.put, List.getElem_toArray, List.getElem_cons_zero, List.getElem_cons_succ, List.setIfInBounds_toArray, List.set_cons_zero, List.set_cons_succ])
  refine wpAnyH_take (i := 4) (v := ?_) rfl (by kernel_rfl) (by kernel_rfl) (by kernel_rfl) (fun _ _ _ h => h) (Or.inl ⟨by kernel_rfl, ?_⟩) (by assumption) ?_
  rotate_left
  · (intro w hSw; (try dsimp only at hSw); go_simp) <;> with_reducible rfl
  (try simp only [Act.put, List.getElem_toArray, List.getElem_cons_zero, List.getElem_cons_succ, List.setIfInBounds_toArray, List.set_cons_zero, List.set_cons_succ])
  refine wpAnyH_take (i := 5) (v := ?_) rfl (by kernel_rfl) (by kernel_rfl) (by kernel_rfl) (fun _ _ _ h => h) (Or.inl ⟨by kernel_rfl, ?_⟩) (by assumption) ?_
  rotate_left
  · (intro w hSw; (try dsimp only at hSw); go_simp) <;> with_reducible rfl
  (try simp only [Act.put, List.getElem_toArray, List.getElem_cons_zero, List.getElem_cons_succ, List.setIfInBounds_toArray, List.set_cons_zero, List.set_cons_succ])
  refine wpAnyH_take (i := 6) (v := ?_) rfl (by kernel_rfl) (by kernel_rfl) (by kernel_rfl) (fun _ _ _ h => h) (Or.inl ⟨by kernel_rfl, ?_⟩) (by assumption) ?_
  rotate_left
  · (intro w hSw; (try dsimp only at hSw); go_simp) <;> with_reducible rfl
  (try simp only [Act.put, List.getElem_toArray, List.getElem_cons_zero, List.getElem_cons_succ, List.setIfInBounds_toArray, List.set_cons_zero, List.set_cons_succ])
  refine wpAnyH_take (i := 7) (v := ?_) rfl (by kernel_rfl) (by kernel_rfl) (by kernel_rfl) (fun _ _ _ h => h) (Or.inl ⟨by kernel_rfl, ?_⟩) (by assumption) ?_
  rotate_left
  · (intro w hSw; (try dsimp only at hSw); go_simp) <;> with_reducible rfl
  (try simp only [Act.put, List.getElem_toArray, List.getElem_cons_zero, List.getElem_cons_succ, List.setIfInBounds_toArray, List.set_cons_zero, List.set_cons_succ])
  refine wpAnyH_take (i := 8) (v := ?_) rfl (by kernel_rfl) (by kernel_rfl) (by kernel_rfl) (fun _ _ _ h => h) (Or.inl ⟨by kernel_rfl, ?_⟩) (by assumption) ?_
  rotate_left
  · (intro w hSw; (try dsimp only at hSw); go_simp) <;> with_reducible rfl
  (try simp only [Act.put, List.getElem_toArray, List.getElem_cons_zero, List.getElem_cons_succ, List.setIfInBounds_toArray, List.set_cons_zero, List.set_cons_succ])
  refine wpAnyH_take (i := 9) (v := ?_) rfl (by kernel_rfl) (by kernel_rfl) (by kernel_rfl) (fun _ _ _ h => h) (Or.inl ⟨by kernel_rfl, ?_⟩) (by assumption) ?_
  rotate_left
  · (intro w hSw; (try dsimp only at hSw); go_simp) <;> with_reducible rfl
  (try simp only [Act.put, List.getElem_toArray, List.getElem_cons_zero, List.getElem_cons_succ, List.setIfInBounds_toArray, List.set_cons_zero, List.set_cons_succ])
  refine wpAnyH_take (i := 10) (v := ?_) rfl (by kernel_rfl) (by kernel_rfl) (by kernel_rfl) (fun _ _ _ h => h) (Or.inl ⟨by kernel_rfl, ?_⟩) (by assumption) ?_
  rotate_left
  · (intro w hSw; (try dsimp only at hSw); go_simp) <;> with_reducible rfl
  (try simp only [Act.put, List.getElem_toArray, List.getElem_cons_zero, List.getElem_cons_succ, List.setIfInBounds_toArray, List.set_cons_zero, List.set_cons_succ])
  refine wpAnyH_take (i := 11) (v := ?_) rfl (by kernel_rfl) (by kernel_rfl) (by kernel_rfl) (fun _ _ _ h => h) (Or.inl ⟨by kernel_rfl, ?_⟩) (by assumption) ?_
  rotate_left
  · (intro w hSw; (try dsimp only at hSw); go_simp) <;> with_reducible rfl
  (try simp only [Act.put, List.getElem_toArray, List.getElem_cons_zero, List.getElem_cons_succ, List.setIfInBounds_toArray, List.set_cons_zero, List.set_cons_succ])
  refine wpAnyH_take (i := 12) (v := ?_) rfl (by kernel_rfl) (by kernel_rfl) (by kernel_rfl) (fun _ _ _ h => h) (Or.inl ⟨by kernel_rfl, ?_⟩) (by assumption) ?_
  rotate_left
  · (intro w hSw; (try dsimp only at hSw); go_simp) <;> with_reducible rfl
  (try simp only [Act.put, List.getElem_toArray, List.getElem_cons_zero, List.getElem_cons_succ, List.setIfInBounds_toArray, List.set_cons_zero, List.set_cons_succ])
  refine wpAnyH_ready (rs := [13, 17]) (by kernel_rfl) (by simp) ?_
  refine AllReadyH.cons rfl (fun K hK => ?_) (AllReadyH.cons rfl (fun K hK => ?_) AllReadyH.nil)
  · go_simp
    refine (HX.out w.drew HDr.out).mono ?_
    rintro x w1 ⟨rfl, hb1⟩
    have hB1 : Below w.heap.size w w1 := HDr.out.trans hb1
    have hV1 : VAt w1 V K0 e s := (hB1.block _ (lt_of_heap HV.out)).trans HV.out
    have y0 := cell_of_heap (i := 0) hV1
    have y1 := cell_of_heap (i := 1) hV1
    have y2 := cell_of_heap (i := 2) hV1
    simp only [List.getElem?_toArray, List.getElem?_cons_zero, List.getElem?_cons_succ] at y0 y1 y2
    have HB1 : Hid _ := hB1
    clear hV1 hb1 hB1
    refine hK.out _ _ ⟨y0, y1, y2⟩ (fun hHeld => ?_)
    clear hK K
    (try simp only [Act.put, List.getElem_toArray, List.getElem_cons_zero, List.getElem_cons_succ, List.setIfInBounds_toArray, List.set_cons_zero, List.set_cons_succ])
    refine wpAnyH_take (i := 14) (v := ?_) rfl (by kernel_rfl) (by kernel_rfl) (by kernel_rfl) (fun _ _ _ h => h) (Or.inl ⟨by kernel_rfl, ?_⟩) (by assumption) ?_
    rotate_left
    · (intro w hSw; (try dsimp only at hSw); go_simp) <;> with_reducible rfl
    (try simp only [Act.put, List.getElem_toArray, List.getElem_cons_zero, List.getElem_cons_succ, List.setIfInBounds_toArray, List.set_cons_zero, List.set_cons_succ])
    refine wpAnyH_take (i := 15) (v := ?_) rfl (by kernel_rfl) (by kernel_rfl) (by kernel_rfl) (fun _ _ _ h => h) (Or.inl ⟨by kernel_rfl, ?_⟩) (by assumption) ?_
    rotate_left
    · (intro w hSw; (try dsimp only at hSw); go_simp) <;> with_reducible rfl
    (try simp only [Act.put, List.getElem_toArray, List.getElem_cons_zero, List.getElem_cons_succ, List.setIfInBounds_toArray, List.set_cons_zero, List.set_cons_succ])
    refine wpAnyH_take (i := 16) (v := ?_) rfl (by kernel_rfl) (by kernel_rfl) (by kernel_rfl) (fun _ _ _ h => h) (Or.inl ⟨by kernel_rfl, ?_⟩) (by assumption) ?_
    rotate_left
    · (intro w hSw; (try dsimp only at hSw); go_simp) <;> with_reducible rfl
    (try simp only [Act.put, List.getElem_toArray, List.getElem_cons_zero, List.getElem_cons_succ, List.setIfInBounds_toArray, List.set_cons_zero, List.set_cons_succ])
    refine wpAnyH_ready (rs := [17]) (by kernel_rfl) (by simp) ?_
    refine AllReadyH.cons rfl (fun K hK => ?_) AllReadyH.nil
    go_simp
    refine hK.out _ _ ⟨cell_alloc_old y0 _, cell_alloc_old y1 _, cell_alloc_old y2 _⟩ (fun hHeld => ?_)
    clear hK K
    (try simp only [Act.put, List.getElem_toArray, List.getElem_cons_zero, List.getElem_cons_succ, List.setIfInBounds_toArray, List.set_cons_zero, List.set_cons_succ])
    refine wpAnyH_ready (rs := [18]) (by kernel_rfl) (by simp) ?_
    refine AllReadyH.cons rfl (fun K hK => ?_) AllReadyH.nil
    go_simp
    refine hK.out _ _ ⟨cell_alloc_old y0 _, cell_alloc_old y1 _, cell_alloc_old y2 _⟩ (fun hHeld => ?_)
    clear hK K
    (try simp only [Act.put, List.getElem_toArray, List.getElem_cons_zero, List.getElem_cons_succ, List.setIfInBounds_toArray, List.set_cons_zero, List.set_cons_succ])
    refine wpAnyH_take (i := 19) (v := ?_) rfl (by kernel_rfl) (by kernel_rfl) (by kernel_rfl) (fun _ _ _ h => h) (Or.inl ⟨by kernel_rfl, ?_⟩) (by assumption) ?_
    rotate_left
    · (intro w hSw; (try dsimp only at hSw); go_simp) <;> with_reducible rfl
    (try simp only [Act.put, List.getElem_toArray, List.getElem_cons_zero, List.getElem_cons_succ, List.setIfInBounds_toArray, List.set_cons_zero, List.set_cons_succ])
    refine wpAnyH_done (by kernel_rfl) ?_ _
    have HF : Hid (Below w.heap.size w (w1.alloc (.cells #[.int .i64 k, .int .i64 i, .int .i64 q, .int .i64 p] 68))) := HB1.out.alloc HB1.out.size _
    clear HB1 y0 y1 y2 v0 v1 v2
    rcases HWs.out with ⟨g0, gA, gR⟩ | ⟨g0, g1, gA, gR⟩ | ⟨g0, g1, g2, gA, gR⟩ | ⟨g0, g1, g2, gA, gR, g3, g4⟩
    all_goals
      subst g0
      have HA : Hid _ := gA
      have HR : Hid _ := gR
      clear gA gR
      go_wp2
      go_ret2
      exact ⟨by rw [HA.out, HR.out]; rfl, HF.out⟩
  · obtain ⟨W, hW⟩ : ∃ W, W = (w.alloc (.cells #[.int .i64 0, .int .i64 0, .int .i64 0, .int .i64 0] 68)).drew := ⟨_, rfl⟩
    have hbW : Below w.heap.size w W := by rw [hW]; exact (below_alloc _ _).drew
    have hhW : W.heap[w.heap.size]? = some (.cells #[.int .i64 0, .int .i64 0, .int .i64 0, .int .i64 0] 68) := by rw [hW]; exact heap_alloc_new _ _
    have hsW : W.heap.size = w.heap.size + 1 := by rw [hW]; exact World.size_alloc _ _
    go_simp
    rw [← hW]
    have hV2 : VAt W V K0 e s := (hbW.block _ (lt_of_heap HV.out)).trans HV.out
    have z0 := cell_of_heap (i := 0) hV2
    have z1 := cell_of_heap (i := 1) hV2
    have z2 := cell_of_heap (i := 2) hV2
    simp only [List.getElem?_toArray, List.getElem?_cons_zero, List.getElem?_cons_succ] at z0 z1 z2
    have HbW : Hid _ := hbW
    have HhW : Hid _ := hhW
    have HsW : Hid _ := hsW
    clear hbW hhW hsW hW hV2
    refine hK.out _ _ ⟨z0, z1, z2⟩ (fun hHeld => ?_)
    clear hK K
    (try simp only [Act.put, List.getElem_toArray, List.getElem_cons_zero, List.getElem_cons_succ, List.setIfInBounds_toArray, List.set_cons_zero, List.set_cons_succ])
    refine wpAnyH_ready (rs := [13]) (by kernel_rfl) (by simp) ?_
    refine AllReadyH.cons rfl (fun K hK => ?_) AllReadyH.nil
    go_simp
    refine (HX.out W HbW.out).mono ?_
    rintro x w1 ⟨rfl, hb1⟩
    have hB1 : Below w.heap.size w w1 := HbW.out.trans (hb1.mono (by have := HsW.out; omega))
    have hV1 : VAt w1 V K0 e s := (hB1.block _ (lt_of_heap HV.out)).trans HV.out
    have y0 := cell_of_heap (i := 0) hV1
    have y1 := cell_of_heap (i := 1) hV1
    have y2 := cell_of_heap (i := 2) hV1
    simp only [List.getElem?_toArray, List.getElem?_cons_zero, List.getElem?_cons_succ] at y0 y1 y2
    have hx1 : w1.heap[w.heap.size]? = some (.cells #[.int .i64 0, .int .i64 0, .int .i64 0, .int .i64 0] 68) := (hb1.block _ (by have := HsW.out; omega)).trans HhW.out
    have x0 := cell_of_heap (i := 0) hx1
    have x1 := cell_of_heap (i := 1) hx1
    have x2 := cell_of_heap (i := 2) hx1
    have x3 := cell_of_heap (i := 3) hx1
    have xf := fun i => frozen_of_heap (i := i) hx1
    simp only [List.getElem?_toArray, List.getElem?_cons_zero, List.getElem?_cons_succ] at x0 x1 x2 x3
    have HB1 : Hid _ := hB1
    have HV1 : Hid (VAt w1 V K0 e s) := hV1
    have HX1 : Hid _ := hx1
    clear hb1 hV1 hB1 hx1
    refine hK.out _ _ ⟨y0, y1, y2⟩ (fun hHeld => ?_)
    clear hK K
    (try simp only [Act.put, List.getElem_toArray, List.getElem_cons_zero, List.getElem_cons_succ, List.setIfInBounds_toArray, List.set_cons_zero, List.set_cons_succ])
    refine wpAnyH_take (i := 14) (v := ?_) rfl (by kernel_rfl) (by kernel_rfl) (by kernel_rfl) (fun _ _ _ h => h) (Or.inl ⟨by kernel_rfl, ?_⟩) (by assumption) ?_
    rotate_left
    · (intro w hSw; (try dsimp only at hSw); go_simp) <;> with_reducible rfl
    (try simp only [Act.put, List.getElem_toArray, List.getElem_cons_zero, List.getElem_cons_succ, List.setIfInBounds_toArray, List.set_cons_zero, List.set_cons_succ])
    refine wpAnyH_take (i := 15) (v := ?_) rfl (by kernel_rfl) (by kernel_rfl) (by kernel_rfl) (fun _ _ _ h => h) (Or.inl ⟨by kernel_rfl, ?_⟩) (by assumption) ?_
    rotate_left
    · (intro w hSw; (try dsimp only at hSw); go_simp) <;> with_reducible rfl
    (try simp only [Act.put, List.getElem_toArray, List.getElem_cons_zero, List.getElem_cons_succ, List.setIfInBounds_toArray, List.set_cons_zero, List.set_cons_succ])
    refine wpAnyH_take (i := 16) (v := ?_) rfl (by kernel_rfl) (by kernel_rfl) (by kernel_rfl) (fun _ _ _ h => h) (Or.inl ⟨by kernel_rfl, ?_⟩) (by assumption) ?_
    rotate_left
    · (intro w hSw; (try dsimp only at hSw); go_simp) <;> with_reducible rfl
    (try simp only [Act.put, List.getElem_toArray, List.getElem_cons_zero, List.getElem_cons_succ, List.setIfInBounds_toArray, List.set_cons_zero, List.set_cons_succ])
    refine wpAnyH_ready (rs := [18]) (by kernel_rfl) (by simp) ?_
    refine AllReadyH.cons rfl (fun K hK => ?_) AllReadyH.nil
    go_simp
    obtain ⟨Z, hZ⟩ : ∃ Z, Z = ((((w1.setCell ⟨w.heap.size, 0, none⟩ (.int .i64 k)).setCell ⟨w.heap.size, 1, none⟩ (.int .i64 i)).setCell ⟨w.heap.size, 2, none⟩ (.int .i64 q)).setCell ⟨w.heap.size, 3, none⟩ (.int .i64 p)) := ⟨_, rfl⟩
    have hZb : Below w.heap.size w Z := by rw [hZ]; exact (((HB1.out.setCell (Nat.le_refl _) _).setCell (Nat.le_refl _) _).setCell (Nat.le_refl _) _).setCell (Nat.le_refl _) _
    have hZx : Z.heap[w.heap.size]? = some (.cells #[.int .i64 k, .int .i64 i, .int .i64 q, .int .i64 p] 68) := by rw [hZ]; exact set4_heap HX1.out _ _ _ _
    rw [← hZ]
    clear hZ
    have hV3 : VAt Z V K0 e s := (hZb.block _ (lt_of_heap HV.out)).trans HV.out
    have z0 := cell_of_heap (i := 0) hV3
    have z1 := cell_of_heap (i := 1) hV3
    have z2 := cell_of_heap (i := 2) hV3
    simp only [List.getElem?_toArray, List.getElem?_cons_zero, List.getElem?_cons_succ] at z0 z1 z2
    have x1 := cell_of_heap (i := 1) hZx
    have x2 := cell_of_heap (i := 2) hZx
    simp only [List.getElem?_toArray, List.getElem?_cons_zero, List.getElem?_cons_succ] at x1 x2
    have HF : Hid _ := hZb
    clear hV3 hZb hZx
    refine hK.out _ _ ⟨z0, z1, z2⟩ (fun hHeld => ?_)
    clear hK K
    (try simp only [Act.put, List.getElem_toArray, List.getElem_cons_zero, List.getElem_cons_succ, List.setIfInBounds_toArray, List.set_cons_zero, List.set_cons_succ])
    refine wpAnyH_take (i := 19) (v := ?_) rfl (by kernel_rfl) (by kernel_rfl) (by kernel_rfl) (fun _ _ _ h => h) (Or.inl ⟨by kernel_rfl, ?_⟩) (by assumption) ?_
    rotate_left
    · (intro w hSw; (try dsimp only at hSw); go_simp) <;> with_reducible rfl
    (try simp only [Act.put, List.getElem_toArray, List.getElem_cons_zero, List.getElem_cons_succ, List.setIfInBounds_toArray, List.set_cons_zero, List.set_cons_succ])
    refine wpAnyH_done (by kernel_rfl) ?_ _
    clear HB1 z0 z1 z2 y0 y1 y2 v0 v1 v2 xf
    rcases HWs.out with ⟨g0, gA, gR⟩ | ⟨g0, g1, gA, gR⟩ | ⟨g0, g1, g2, gA, gR⟩ | ⟨g0, g1, g2, gA, gR, g3, g4⟩
    all_goals
      subst g0
      have HA : Hid _ := gA
      have HR : Hid _ := gR
      clear gA gR
      go_wp2
      go_ret2
      exact ⟨by rw [HA.out, HR.out]; rfl, HF.out⟩
end
end Go.Proofs.Ytfnafjddajgahab
