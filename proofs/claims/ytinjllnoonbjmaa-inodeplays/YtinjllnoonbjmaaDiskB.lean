/- The contracts of the disk's Get and Put, of the law's own Block, and of janusref01.Words at two equal rows of words. -/
import Derived.Test.YtinjllnoonbjmaaDiskA
import Derived.Deep.QuietTactic
import Derived.BigQuiet
namespace Go.Proofs.Ytinjllnoonbjmaa
open Go.RowKit
namespace Di
set_option linter.unusedVariables false

/-- The words that the law's Block makes. -/
def blkV (v : Int) (i : Nat) : Int := IntKind.u64.wrap (v + i)
def blk (v : Int) (m : Nat) : List Int := (List.range m).map (blkV v)
theorem blk_len (v : Int) (m : Nat) : (blk v m).length = m := by simp [blk]
theorem blk_succ (v : Int) (m : Nat) : blk v (m + 1) = blk v m ++ [blkV v m] := by simp [blk, List.range_succ]
/-- How many these are. -/
def cnt (n : Int) : Nat := min n.toNat 100

theorem get_nil (f : Int) (w : World) :
    Calls Try.prog 59 #[.pointer none, .int .i64 f] w fun e w' => e = .returned (.tuple #[.slice none 0 0, .int .i64 101]) ∧ w' = w := by
  go_enter Try.func59, Try.ntmps59
  go_wp2_with (go_at_call 81; refine (has_nil _ _).mono ?_; rintro e w' ⟨rfl, rfl⟩)
  go_ret2
  exact ⟨rfl, rfl⟩
theorem getno_at (b g n : Nat) (vs : List Int) (gt pt : Nat) (f : Int) (w : World) (h : DiskAt w b g n vs gt pt) (hno : ¬ (0 ≤ f ∧ f < n)) :
    Calls Try.prog 59 #[.pointer (some ⟨b, 0, none⟩), .int .i64 f] w fun e w' => e = .returned (.tuple #[.slice none 0 0, .int .i64 101]) ∧ w' = w := by
  have HN : Hid _ := hno
  clear hno
  go_enter Try.func59, Try.ntmps59
  go_wp2_with (go_at_call 81; refine (has_at b g n vs gt pt f _ h false (inB_no HN.out)).mono ?_; rintro e w' ⟨rfl, rfl⟩)
  go_ret2
  exact ⟨rfl, rfl⟩

theorem frame_get {vs : List Int} {n f : Nat} (hl : vs.length = n * 32) (hf : f < n) {j : Nat} {x : Int} (h : (frameOf vs f)[j]? = some x) : j < 32 ∧ x = vs.getD (f * 32 + j) 0 := by
  have hj : j < 32 := by
    have := (List.getElem?_eq_some_iff.1 h).1
    rwa [frameOf_length vs f n hl hf] at this
  exact ⟨hj, by rw [← frameOf_getD vs f j hj]; exact getD_of_get? h⟩

set_option maxHeartbeats 1000000 in
theorem get_at (b g n : Nat) (vs : List Int) (gt pt : Nat) (f : Int) (w : World) (h : DiskAt w b g n vs gt pt) (h0 : 0 ≤ f) (h1 : f < n) (hgt : gt ≤ 1000000) :
    Calls Try.prog 59 #[.pointer (some ⟨b, 0, none⟩), .int .i64 f] w fun e w' => ∃ gg, e = .returned (.tuple #[.slice (some ⟨gg, 0, none⟩) 32 32, .int .i64 0]) ∧
      URow w.heap.size w' (.slice (some ⟨gg, 0, none⟩) 32 32) (frameOf vs f.toNat) ∧ DiskAt w' b g n vs (gt + 1) pt ∧ Upd b w w' := by
  obtain ⟨f, rfl⟩ := nat_of f h0
  simp only [Int.toNat_natCast]
  have hfn : f < n := by omega
  have hc0 := h.c0
  have hc1 := h.c1
  have hfz := h.free 1
  have hl := lt_of_heap h.head
  have H1 : Hid _ := h.get1
  have hsz : (w.setCell ⟨b, 1, none⟩ (.int .i64 ((gt : Int) + 1))).heap.size = w.heap.size := by simp [World.setCell]
  have HS : Hid _ := hsz
  have hd0 := h.get1.c0
  have hlen := frameOf_length vs f n h.len hfn
  have HL : Hid _ := hlen
  clear hsz hlen
  go_enter Try.func59, Try.ntmps59
  go_wp2_with fail
  refine (has_at b g n vs gt pt f _ h true (inB_yes h0 h1)).mono ?_
  rintro e w' ⟨rfl, rfl⟩
  go_wp2_with fail
  refine (clone_at g (f * 32) 32 32 (frameOf vs f) _ HL.out (by omega) (by omega) (fun j x hx => by obtain ⟨hj, rfl⟩ := frame_get h.len hfn hx; exact (H1.out).word _ (by omega))).mono ?_
  rintro e w2 ⟨gg, cap, rfl, hown, hb⟩
  have hcap : 32 ≤ cap := by
    rcases hown.2 with ⟨e2, _⟩ | ⟨g', cap', cur, e2, _, _, hcc, _⟩
    · simp at e2
    · simp at e2; omega
  go_wp2
  go_ret2
  refine ⟨gg, rfl, ?_, (H1.out).below hb, (Upd.setCell _ _ _ _).trans (Upd.of_below hb)⟩
  have hur := urow_of_own (zs := frameOf vs f) (by rw [HL.out]; exact hown)
  rw [HS.out] at hur
  obtain ⟨a, c, e, _, _, hf⟩ := hur
  rw [HL.out] at e
  simp only [Value.slice.injEq] at e
  obtain ⟨rfl, _, rfl⟩ := e
  exact ⟨_, 32, by rw [HL.out], by rw [HL.out]; omega, by unfold maxLen; omega, hf⟩

theorem put_nil (f : Int) (a : Option Addr) (m c : Nat) (w : World) :
    Calls Try.prog 110 #[.pointer none, .int .i64 f, .slice a m c] w fun e w' => e = .returned (.int .i64 101) ∧ w' = w := by
  go_enter Try.func110, Try.ntmps110
  go_wp2_with (go_at_call 81; refine (has_nil _ _).mono ?_; rintro e w' ⟨rfl, rfl⟩)
  go_ret
  exact ⟨rfl, rfl⟩
theorem putno_at (b g n : Nat) (vs : List Int) (gt pt : Nat) (f : Int) (a : Option Addr) (m c : Nat) (w : World) (h : DiskAt w b g n vs gt pt) (hno : ¬ (0 ≤ f ∧ f < n ∧ m = 32)) :
    Calls Try.prog 110 #[.pointer (some ⟨b, 0, none⟩), .int .i64 f, .slice a m c] w fun e w' => e = .returned (.int .i64 101) ∧ w' = w := by
  by_cases hf : 0 ≤ f ∧ f < n
  · have hm : ((m : Int) != 32) = true := by simp; omega
    have HF : Hid _ := hf
    clear hno hf
    go_enter Try.func110, Try.ntmps110
    go_wp2_with (go_at_call 81; refine (has_at b g n vs gt pt f _ h true (inB_yes HF.1 HF.2)).mono ?_; rintro e w' ⟨rfl, rfl⟩)
    go_ret
    exact ⟨rfl, rfl⟩
  · have HF : Hid _ := hf
    clear hno hf
    go_enter Try.func110, Try.ntmps110
    go_wp2_with (go_at_call 81; refine (has_at b g n vs gt pt f _ h false (inB_no HF.out)).mono ?_; rintro e w' ⟨rfl, rfl⟩)
    go_ret
    exact ⟨rfl, rfl⟩

theorem copy_in {w : World} {b g n : Nat} {vs : List Int} {gt pt : Nat} (h : DiskAt w b g n vs gt pt) (f : Nat) (hf : f < n) (p : Nat) (ws : List Int) (hl : ws.length = 32)
    (hw : ∀ (j : Nat) (x : Int), ws[j]? = some x → w.cell? ⟨p, j, none⟩ = some (.int .u64 x)) (ty : TypeId) (c1 c2 : Nat) :
    (Builtin.copy_ #[100, 100] ty #[.slice (some ⟨g, f * 32, none⟩) 32 c1, .slice (some ⟨p, 0, none⟩) 32 c2]).run Try.prog w = .ok (goInt 32) (w.setRow g (urow (splice vs (f * 32) ws))) := by
  have hr := run_copy_row Try.prog w 100 100 ty 99 g (f * 32) 32 c1 ⟨p, 0, none⟩ 32 c2 (urow vs) 146 (uvs ws) Try.underlying100 (by kernel_rfl) h.row
    (by simp [uvs_len, hl])
    (fun j v hv => by
      obtain ⟨x, hx, rfl⟩ := uvs_get hv
      rw [add0, Nat.zero_add]
      exact hw j x hx)
    (by simp [uvs_len, hl, urow_size, h.len]; omega) (uvs_one ws)
  rw [hr, urow_splice vs (f * 32) ws (uvs ws) rfl (by rw [h.len, hl]; omega)]
  simp [uvs_len, hl]

set_option maxHeartbeats 1000000 in
theorem put_any (M b g n : Nat) (vs ws : List Int) (gt pt : Nat) (f : Int) (u : Value) (w : World) (h : DiskAt w b g n vs gt pt) (h0 : 0 ≤ f) (h1 : f < n) (hpt : pt ≤ 1000000) (hu : URow M w u ws) (hl : ws.length = 32) :
    Calls Try.prog 110 #[.pointer (some ⟨b, 0, none⟩), .int .i64 f, u] w fun e w' => e = .returned (.int .i64 0) ∧
      DiskAt w' b g n (splice vs (f.toNat * 32) ws) gt (pt + 1) ∧ UpdP (fun k => k = b ∨ k = g) w w' := by
  obtain ⟨f, rfl⟩ := nat_of f h0
  simp only [Int.toNat_natCast]
  obtain ⟨a, cap, rfl, _, _, hf⟩ := hu
  obtain ⟨p, cur, rfl, hpM, hh, hcell⟩ := hf (by intro e; rw [e] at hl; simp at hl)
  rw [hl]
  have hfn : f < n := by omega
  have hc0 := h.c0
  have hc2 := h.c2
  have hfz := h.free 2
  have H1 : Hid _ := h.put1
  have hd0 := h.put1.c0
  have hr := copy_in h.put1 f hfn p ws hl (fun j x hx => by
    rw [World.cell?_of_block (w := w) (a := ⟨p, j, none⟩) (Below.heap_setCell _ _ _ _ (by show p ≠ b; intro e; subst e; have q := h.head; rw [hh] at q; injection q with q1; injection q1 with _ q2; exact absurd q2 (by decide))), cell_of_heap hh]
    exact hcell j x hx)
  have HL : Hid _ := hl
  clear hl hcell hh
  go_enter Try.func110, Try.ntmps110
  go_wp2_with fail
  refine (has_at b g n vs gt pt f _ h true (inB_yes h0 h1)).mono ?_
  rintro e w' ⟨rfl, rfl⟩
  go_wp2
  go_ret
  refine ⟨rfl, (H1.out).lay _ _ (by rw [HL.out]; omega), ((Upd.setCell b 2 _ _).p _ (Or.inl rfl)).trans ((Upd.setRow g _ _).p _ (Or.inr rfl))⟩

theorem put_at (M b g n : Nat) (vs ws : List Int) (gt pt : Nat) (f : Int) (u : Value) (w : World) (h : DiskAt w b g n vs gt pt) (h0 : 0 ≤ f) (h1 : f < n) (hpt : pt ≤ 1000000) (hu : URow M w u ws) (hl : ws.length = 32) (hM : b < M) :
    Calls Try.prog 110 #[.pointer (some ⟨b, 0, none⟩), .int .i64 f, u] w fun e w' => e = .returned (.int .i64 0) ∧
      DiskAt w' b g n (splice vs (f.toNat * 32) ws) gt (pt + 1) ∧ UpdP (fun k => k = b ∨ k = g) w w' := put_any M b g n vs ws gt pt f u w h h0 h1 hpt hu hl

set_option maxHeartbeats 1000000 in
theorem words_same (M M' : Nat) (u v : Value) (zs : List Int) (w : World) (h1 : URow M w u zs) (h2 : URow M' w v zs) (hl : zs.length ≤ 1000) :
    Calls Try.prog 60 #[u, v] w fun e w' => e = .returned (.bool true) ∧ ∃ q, w' = w.drewN q := by
  obtain ⟨a, cap, rfl, _, _, f1⟩ := h1
  obtain ⟨b, cap2, rfl, _, _, f2⟩ := h2
  go_enter Try.func60, Try.ntmps60
  go_wp2
  go_loopw [5] (fun i wr => ∃ (k q : Nat), k ≤ zs.length ∧ i = .int .i64 k ∧ wr = w.drewN q) (fun i _ => zs.length - (intOf i).toNat)
  case atStart => exact ⟨0, 0, by omega, rfl, rfl⟩
  case round =>
    obtain ⟨k, q, hk, rfl, rfl⟩ := hrel
    by_cases hlk : k < zs.length
    · have hne : zs ≠ [] := by intro e; rw [e] at hlk; simp at hlk
      obtain ⟨g, cur, rfl, _, hh, hg⟩ := f1 hne
      obtain ⟨g', cur', rfl, _, hh', hg'⟩ := f2 hne
      have he := List.getElem?_eq_getElem hlk
      have c1 : w.cell? ⟨g, k, none⟩ = some (.int .u64 zs[k]) := by rw [cell_of_heap hh]; exact hg k _ he
      have c2 : w.cell? ⟨g', k, none⟩ = some (.int .u64 zs[k]) := by rw [cell_of_heap hh']; exact hg' k _ he
      generalize zs[k] = x at he c1 c2
      have hint : (k : Int) < (zs.length : Int) := by omega
      clear f1 f2 hg hg' he hh hh'
      go_wp2
      go_quiet (fail)
      go_wp2
      go_roundw
      case rel => exact ⟨k + 1, _, by omega, by go_num, rfl⟩
      case measure => simp [intOf]; omega
    · have : k = zs.length := by omega
      subst this
      clear f1 f2
      go_wp2
      go_ret
      exact ⟨rfl, q, rfl⟩

theorem drewN_below {w w' : World} (h : ∃ q, w' = w.drewN q) : Below w.heap.size w w' := by
  obtain ⟨q, rfl⟩ := h
  exact ⟨rfl, rfl, rfl, Nat.le_refl _, fun _ _ => rfl⟩

end Di
end Go.Proofs.Ytinjllnoonbjmaa
