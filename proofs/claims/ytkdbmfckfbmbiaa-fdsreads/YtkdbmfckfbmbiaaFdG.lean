/- Package fds: Gone; rows of files. -/
import Derived.Test.YtkdbmfckfbmbiaaFdF
namespace Go.Proofs.Ytkdbmfckfbmbiaa
open Go.RowKit
set_option linter.unusedVariables false

/-- Files as cells. -/
def fls (L : List Fl) : List Value := L.flatMap (fun x => x.row.toList)
theorem fls_app (L M : List Fl) : fls (L ++ M) = fls L ++ fls M := by simp [fls]
theorem fls_len : ∀ (L : List Fl), (fls L).length = L.length * 5
  | [] => rfl
  | x :: L => by
    have := fls_len L
    unfold fls at *
    rw [List.flatMap_cons, List.length_append, this]
    simp
    omega
theorem fls_get : ∀ (L : List Fl) (j k : Nat) (x : Fl), L[j]? = some x → k < 5 → (fls L)[j * 5 + k]? = some (x.get k)
  | [], j, k, x, h, _ => by simp at h
  | u :: L, 0, k, x, h, hk => by
    simp at h
    subst h
    have e : fls (u :: L) = u.row.toList ++ fls L := rfl
    rw [e, List.getElem?_append_left (by simp; omega)]
    obtain rfl | rfl | rfl | rfl | rfl : k = 0 ∨ k = 1 ∨ k = 2 ∨ k = 3 ∨ k = 4 := by omega
    all_goals rfl
  | u :: L, j + 1, k, x, h, hk => by
    have := fls_get L j k x (by simpa using h) hk
    have e : fls (u :: L) = u.row.toList ++ fls L := rfl
    rw [e, List.getElem?_append_right (by simp; omega)]
    rw [← this]
    congr 1
    simp
    omega
theorem fileInfo : (Try.prog.info? 30).map (fun i => (i.zero, i.size, i.bytes)) = some (some (.agg nor), 5, 40) := by kernel_rfl
/-- A slice at a holds these files. -/
def FRow (w : World) (a : Option Addr) (L : List Fl) : Prop := ∀ (j : Nat) (x : Fl), L[j]? = some x → ∃ g, a = some ⟨g, 0, none⟩ ∧ ∀ k, k < 5 → w.cell? ⟨g, j * 5 + k, none⟩ = some (x.get k)
theorem FRow.below {w w' : World} {a : Option Addr} {L : List Fl} (h : FRow w a L) (hb : Below w.heap.size w w') : FRow w' a L := by
  intro j x hj
  obtain ⟨g, ha, hc⟩ := h j x hj
  refine ⟨g, ha, fun k hk => ?_⟩
  have := hc k hk
  rw [hb.cell (cell_lt this)]
  exact this
theorem own_frow {w : World} {base : Nat} {e : TypeId} {v : Value} {L : List Fl} (h : w.ownsRow base e 5 v L.length (fls L)) : ∃ a cap, v = .slice a L.length cap ∧ FRow w a L := by
  rcases h.2 with ⟨rfl, e2⟩ | ⟨g, cap, cur, rfl, _, hh, _, _, _, ht⟩
  · have : L = [] := List.eq_nil_of_length_eq_zero e2
    subst this
    exact ⟨none, 0, rfl, fun j x hx => by simp at hx⟩
  · refine ⟨_, cap, rfl, fun j x hx => ⟨g, rfl, fun k hk => ?_⟩⟩
    have hj : j < L.length := (List.getElem?_eq_some_iff.1 hx).1
    have hq := fls_get L j k x hx hk
    rw [cell_of_heap hh]
    rw [← ht, List.getElem?_take_of_lt (by omega)] at hq
    simpa using hq
theorem upd_grown {b : Nat} {w w1 w2 : World} {row : Option Nat} (h : Upd b w w1) (hg : w1.grownBy w2 row) (hr : ∀ g, row = some g → w.heap.size ≤ g) : Upd b w w2 :=
  ⟨hg.os.trans h.os, hg.tape.trans h.tape, hg.output.trans h.output, Nat.le_trans h.size hg.size, fun k hk hb => (hg.block k (Nat.lt_of_lt_of_le hk h.size) (fun e => by have := hr k e.symm; omega)).trans (h.block k hk hb)⟩

theorem gone_nil (n : Int) (w : World) :
    Calls Try.prog 22 #[.pointer none, .int .i64 n] w fun e w' => e = .returned (.slice none 0 0) ∧ Below w.heap.size w w' := by
  go_enter Try.func22, Try.ntmps22
  go_wp2
  go_loopw [5, 9] (fun s i wr => ∃ (k : Nat), k ≤ 6 ∧ i = .int .i64 k ∧ s = .slice none 0 0 ∧ Below w.heap.size w wr) (fun _ i _ => 6 - (intOf i).toNat)
  case atStart => exact ⟨0, by omega, rfl, rfl, Below.refl _ _⟩
  case round =>
    obtain ⟨k, hk, rfl, rfl, hb⟩ := hrel
    by_cases hlt : k < 6
    · have hh := close_nil n k wr
      have i1 : decide ((k : Int) < 6) = true := decide_eq_true (by omega)
      go_wp2_with fail
      refine hh.mono ?_
      rintro e w1 ⟨rfl, hb1⟩
      have HB : Hid (Below w.heap.size w w1) := hb.trans (hb1.mono hb.size)
      have hs := HB.out.size
      clear hh hb hb1
      unfold Fl.row Fl.no
      go_wp2
      go_roundw
      case rel => exact ⟨k + 1, by omega, by go_num, rfl, HB.out.alloc hs _⟩
      case measure => simp [intOf]; omega
    · obtain rfl : k = 6 := by omega
      go_wp2
      go_ret
      exact ⟨rfl, hb⟩
set_option maxHeartbeats 4000000 in
theorem gone_at (b : Nat) (S : FS) (n : Int) (w : World) (h : FdAt w b S) (hI : Inv S) :
    Calls Try.prog 22 #[.pointer (some ⟨b, 0, none⟩), .int .i64 n] w fun e w' => ∃ v, e = .returned v ∧ w'.ownsRow w.heap.size 30 5 v (goneL S n 6).length (fls (goneL S n 6)) ∧ FdAt w' b (goneTo S n 6) ∧ Upd b w w' := by
  obtain ⟨i0, hi0, hzz⟩ := Option.map_eq_some_iff.1 fileInfo
  simp only [Prod.mk.injEq] at hzz
  obtain ⟨hz0, hz1, hz2⟩ := hzz
  have HH : Hid (FdAt w b S) := h
  have HI : Hid (Inv S) := hI
  have hbl := h.lt
  clear h hI
  go_enter Try.func22, Try.ntmps22
  go_wp2
  go_loopw [5, 9] (fun s i wr => ∃ (k : Nat) (v : Value), k ≤ 6 ∧ i = .int .i64 k ∧ v = s ∧ wr.ownsRow w.heap.size 30 5 v (goneL S n k).length (fls (goneL S n k)) ∧ FdAt wr b (goneTo S n k) ∧ Upd b w wr) (fun _ i _ => 6 - (intOf i).toNat)
  case atStart => exact ⟨0, _, by omega, rfl, rfl, World.ownsRow_nil _ _ _ _, HH.out, Upd.refl _ _⟩
  case round =>
    obtain ⟨k, v, hk, rfl, rfl, hown, hF, hU⟩ := hrel
    by_cases hlt : k < 6
    · have hC := close_at b (goneTo S n k) n k wr hF (HI.out.goneTo n k)
      have i1 : decide ((k : Int) < 6) = true := decide_eq_true (by omega)
      have hle := goneL_len S n k
      have hlow := ownsRow_low hown
      have HO : Hid (wr.ownsRow w.heap.size 30 5 v (goneL S n k).length (fls (goneL S n k))) := hown
      have HU : Hid (Upd b w wr) := hU
      by_cases hn : nm (goneTo S n k) n k = 0
      · have HL : Hid (goneL S n (k + 1) = goneL S n k) := by show _ = _; rw [goneL_succ, if_pos hn]
        have hE : getE (goneTo S n k) n k = 9 := if_pos hn
        rw [hE] at hC
        generalize closeX (goneTo S n k) n k = x at hC
        clear hn hE hown hF hU
        go_wp2_with fail
        refine hC.mono ?_
        rintro e w1 ⟨rfl, hF1, hU1⟩
        have HF1 : Hid (FdAt w1 b (goneTo S n (k + 1))) := hF1
        have HU1 : Hid (Upd b w w1) := HU.out.trans hU1
        have HO1 : Hid (w1.ownsRow w.heap.size 30 5 v (goneL S n k).length (fls (goneL S n k))) := ownsRow_at HO.out (fun g hg => hU1.block g (HO.out.lt g hg).2 (by have := hlow g hg; omega))
        clear hC hF1 hU1 HO HU
        obtain ⟨xk, xi, xo, xa, xr⟩ := x
        unfold Fl.row
        dsimp only
        go_wp2
        go_roundw
        case rel =>
          refine ⟨k + 1, v, by omega, by go_num, rfl, ?_, HF1.out.below (below_alloc _ _), upd_alloc HU1.out _⟩
          rw [HL.out]
          exact World.ownsRow.alloc HO1.out _
        case measure => simp [intOf]; omega
      · have HL : Hid (goneL S n (k + 1) = goneL S n k ++ [closeX (goneTo S n k) n k]) := by show _ = _; rw [goneL_succ, if_neg hn]
        have hE : getE (goneTo S n k) n k = 0 := if_neg hn
        rw [hE] at hC
        generalize closeX (goneTo S n k) n k = x at hC HL
        clear hn hE hown hF hU
        go_wp2_with fail
        refine hC.mono ?_
        rintro e w1 ⟨rfl, hF1, hU1⟩
        have HF1 : Hid (FdAt w1 b (goneTo S n (k + 1))) := hF1
        have HU1 : Hid (Upd b w w1) := HU.out.trans hU1
        have HO1 : Hid (w1.ownsRow w.heap.size 30 5 v (goneL S n k).length (fls (goneL S n k))) := ownsRow_at HO.out (fun g hg => hU1.block g (HO.out.lt g hg).2 (by have := hlow g hg; omega))
        have hws := HU1.out.size
        clear hC hF1 hU1 HO HU
        obtain ⟨xk, xi, xo, xa, xr⟩ := x
        unfold Fl.row
        dsimp only
        generalize goneL S n k = D at *
        go_wp2_with (at_builtin; refine wpList_append_lies _ rfl _ _ _ rfl w.heap.size 30 i0 _ 5 40 Try.underlying48 hi0 hz0 hz1 hz2 rfl (by omega) v D.length (fls D) rfl (World.ownsRow.alloc (World.ownsRow.alloc HO1.out _) _) ⟨w1.heap.size + 1, 0, none⟩ 1 1 [.int .i64 xk, .int .i64 xi, .int .i64 xo, .bool xa, .int .i64 xr] rfl rfl (World.news_of_block (cs := #[.int .i64 xk, .int .i64 xi, .int .i64 xo, .bool xa, .int .i64 xr]) (t := 30) (fr := (0, 0)) (by have := heap_alloc_new (w1.alloc (.cells #[.int .i64 xk, .int .i64 xi, .int .i64 xo, .bool xa, .int .i64 xr] 30)) (.cells #[.int .i64 xk, .int .i64 xi, .int .i64 xo, .bool xa, .int .i64 xr] 30); simpa using this)) (by simp [Value.oneCell']) (by omega) (by unfold maxLen; omega) (by omega) (by simp; omega) _ rfl ?_; intro gg capx w2 hown2 hgrow hat hlt2)
        go_roundw
        case rel =>
          have hU2 : Upd b w w2 := upd_grown (upd_alloc (upd_alloc HU1.out _) _) hgrow hlow
          refine ⟨k + 1, _, by omega, by go_num, rfl, ?_, ?_, hU2⟩
          · rw [HL.out, fls_app, List.length_append]
            exact hown2
          · refine ((HF1.out.below (below_alloc _ _)).below (below_alloc _ _)).keep (hgrow.block b ?_ (fun e => ?_))
            · simp; omega
            · have := hlow b e.symm
              omega
        case measure => simp [intOf]; omega
    · have : k = 6 := by omega
      subst this
      go_wp2
      go_ret
      exact ⟨_, rfl, hown, hF, hU⟩
end Go.Proofs.Ytkdbmfckfbmbiaa
