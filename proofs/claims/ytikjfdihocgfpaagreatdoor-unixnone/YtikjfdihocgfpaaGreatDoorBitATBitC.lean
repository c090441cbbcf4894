/- Package bitmap: the bitmap in the heap; New, Len, is, mask, Used, free. -/
/- Package bitmap: first, count, Left, Mark, Take. -/
/- Package bitmap: Words, reachesPast, Of; janusref01.Words at two equal rows; what is none. -/
import Derived.Test.YtikjfdihocgfpaaGreatDoorRows
import Derived.Test.YtikjfdihocgfpaaGreatDoorPlainTBitM
import Derived.WalkKit
import Derived.WalkSpells
import Derived.WalkLawsBesides
import Derived.BigRegion
import Derived.BigQuiet
import Derived.Deep.QuietTactic
import Derived.Deep.RegionWith
set_option linter.all false
namespace Go.Proofs.YtikjfdihocgfpaaGreatDoor
open Go.RowKit
namespace Bi
theorem below_alloc (w : World) (o : Obj) : Below w.heap.size w (w.alloc o) := (Below.refl _ _).alloc (Nat.le_refl _) _
theorem below_alloc2 (w : World) (o o' : Obj) : Below w.heap.size w ((w.alloc o).alloc o') := (below_alloc w o).trans ((below_alloc _ _).mono (by simp))
/-- Words as a block's cells. -/
def nrow (ws : List Nat) : Array Value := (ws.map (fun x => Value.int .u64 ((x : Nat) : Int))).toArray
theorem nrow_zero (k : Nat) : Array.replicate (k * 1) (Value.int .u64 0) = nrow (List.replicate k 0) := by simp [nrow]
theorem nrow_size (ws : List Nat) : (nrow ws).size = ws.length := by simp [nrow]
theorem nrow_set (ws : List Nat) (i x : Nat) : (nrow ws).setIfInBounds i (.int .u64 ((x : Nat) : Int)) = nrow (ws.set i x) := by
  apply Array.ext'
  simp [nrow, List.map_set]
theorem nrow_get (ws : List Nat) (i : Nat) (h : i < ws.length) : (nrow ws)[i]? = some (.int .u64 ((ws.getD i 0 : Nat) : Int)) := by
  simp [nrow, h]
theorem wordInfo : (Tryz.prog.info? 46).map (fun i => (i.zero, i.size, i.bytes)) = some (some (.int .u64 0), 1, 8) := by kernel_rfl
theorem make_words (n : Nat) (h : n ≤ 1024) (w : World) :
    (Instr.makeSlice 22 (.int .i64 (n : Int)) (.int .i64 (n : Int))).run Tryz.prog w = .ok (.slice (some ⟨w.heap.size, 0, none⟩) n n) (w.alloc (.cells (nrow (List.replicate n 0)) 46)) := by
  have := run_make_flat 22 46 (.int .u64 0) (.int .u64 0) 1 8 Tryz.underlying22 wordInfo rfl (by omega) .i64 .i64 n (by omega) (by omega) w
  rwa [nrow_zero] at this
/-- Block b holds a bitmap of n bits, block g its words ws. -/
structure BmAt (w : World) (b g n : Nat) (ws : List Nat) : Prop where
  head : w.heap[b]? = some (.cells #[.int .i64 (n : Int), .slice (some ⟨g, 0, none⟩) ws.length ws.length] 420)
  row : w.heap[g]? = some (.cells (nrow ws) 46)
  wf : Wf n ws
  pos : 1 ≤ n
  le : n ≤ 1024
section
variable {w w' : World} {b g n : Nat} {ws : List Nat}
theorem BmAt.ne (h : BmAt w b g n ws) : b ≠ g := by
  intro e
  subst e
  have q := h.head
  rw [h.row] at q
  injection q with q1
  injection q1 with _ q2
  exact absurd q2 (by decide)
theorem BmAt.ltb (h : BmAt w b g n ws) : b < w.heap.size := lt_of_heap h.head
theorem BmAt.ltg (h : BmAt w b g n ws) : g < w.heap.size := lt_of_heap h.row
theorem BmAt.c0 (h : BmAt w b g n ws) : w.cell? ⟨b, 0, none⟩ = some (.int .i64 (n : Int)) := by rw [cell_of_heap h.head]; rfl
theorem BmAt.c1 (h : BmAt w b g n ws) : w.cell? ⟨b, 1, none⟩ = some (.slice (some ⟨g, 0, none⟩) ws.length ws.length) := by rw [cell_of_heap h.head]; rfl
theorem BmAt.word (h : BmAt w b g n ws) {i : Nat} (hi : i < ws.length) : w.cell? ⟨g, i, none⟩ = some (.int .u64 ((ws.getD i 0 : Nat) : Int)) := by rw [cell_of_heap h.row]; exact nrow_get ws i hi
theorem BmAt.free (h : BmAt w b g n ws) (i : Nat) : w.frozen? ⟨g, i, none⟩ = false := frozen_of_heap h.row
theorem BmAt.keep (h : BmAt w b g n ws) (hb : w'.heap[b]? = w.heap[b]?) (hg : w'.heap[g]? = w.heap[g]?) : BmAt w' b g n ws := ⟨hb.trans h.head, hg.trans h.row, h.wf, h.pos, h.le⟩
theorem BmAt.below (h : BmAt w b g n ws) (k : Below w.heap.size w w') : BmAt w' b g n ws := h.keep (k.block _ h.ltb) (k.block _ h.ltg)
theorem BmAt.drew (h : BmAt w b g n ws) (q : Nat) : BmAt (w.drewN q) b g n ws := ⟨h.head, h.row, h.wf, h.pos, h.le⟩
theorem BmAt.mark (h : BmAt w b g n ws) {i : Nat} (hi : i < n) (on : Bool) : BmAt (w.setCell ⟨g, i / 64, none⟩ (.int .u64 ((wd (ws.getD (i / 64) 0) i on : Nat) : Int))) b g n (mkW ws i on) := by
  refine ⟨?_, ?_, h.wf.mark hi on, h.pos, h.le⟩
  · rw [Below.heap_setCell _ _ _ _ h.ne, h.head]
    simp [mkW]
  · rw [setCell_eq_setRow w g _ _ _ _ _ h.row, setRow_heap w g _ _ _ _ h.row, nrow_set]
    rfl
end
/-- Whether there is such a bit. -/
def inB (f : Int) (n : Nat) : Bool := decide (0 ≤ f ∧ f < n)
theorem inB_nat {i n : Nat} (h : i < n) : inB (i : Int) n = true := by simp [inB, h]
theorem len_nil (w : World) :
    Calls Tryz.prog 299 #[.pointer none] w fun e w' => e = .returned (.int .i64 0) ∧ w' = w := by
  go_enter Tryz.func299, Tryz.ntmps299
  go_wp2
  go_ret
  exact ⟨rfl, rfl⟩
theorem len_at (b g n : Nat) (ws : List Nat) (w : World) (h : BmAt w b g n ws) :
    Calls Tryz.prog 299 #[.pointer (some ⟨b, 0, none⟩)] w fun e w' => e = .returned (.int .i64 (n : Int)) ∧ w' = w := by
  have hc := h.c0
  clear h
  go_enter Tryz.func299, Tryz.ntmps299
  go_wp2
  go_ret
  exact ⟨rfl, rfl⟩
theorem is_nil (f : Int) (w : World) :
    Calls Tryz.prog 301 #[.pointer none, .int .i64 f] w fun e w' => e = .returned (.bool false) ∧ w' = w := by
  by_cases h : 0 ≤ f
  all_goals
    go_enter Tryz.func301, Tryz.ntmps301
    go_wp2_with (go_at_call 299; refine (len_nil _).mono ?_; rintro e w' ⟨rfl, rfl⟩)
    go_ret
    refine ⟨?_, rfl⟩
    simp <;> omega
theorem is_at (b g n : Nat) (ws : List Nat) (f : Int) (w : World) (h : BmAt w b g n ws) :
    Calls Tryz.prog 301 #[.pointer (some ⟨b, 0, none⟩), .int .i64 f] w fun e w' => e = .returned (.bool (inB f n)) ∧ w' = w := by
  by_cases h0 : 0 ≤ f
  all_goals
    go_enter Tryz.func301, Tryz.ntmps301
    go_wp2_with (go_at_call 299; refine (len_at b g n ws _ h).mono ?_; rintro e w' ⟨rfl, rfl⟩)
    go_ret
    refine ⟨?_, rfl⟩
    first | (simp [inB, h0]; done) | (simp [inB]; omega)
theorem tdiv64 (i : Nat) : ((i : Nat) : Int).tdiv 64 = ((i / 64 : Nat) : Int) := by
  rw [Int.tdiv_eq_ediv_of_nonneg (by omega)]
  omega
theorem tmod64 (i : Nat) : ((i : Nat) : Int).tmod 64 = ((i % 64 : Nat) : Int) := by
  rw [Int.tmod_eq_emod_of_nonneg (by omega)]
  omega
theorem wrap_small (p : Nat) (h : p < 2000) : IntKind.i64.wrap ((p : Nat) : Int) = (p : Int) := by
  simp [IntKind.wrap, IntKind.bits, IntKind.signed]
  omega
theorem mask_at (i : Nat) (hi : i < 1024) (w : World) :
    Calls Tryz.prog 302 #[.int .i64 (i : Int)] w fun e w' => e = .returned (.int .u64 ((mk i : Nat) : Int)) ∧ w' = w := by
  have ht := tmod64 i
  have HS : Hid _ := shl_one i
  obtain ⟨r, hr⟩ : ∃ r, r = i % 64 := ⟨_, rfl⟩
  have hr64 : r < 64 := by omega
  rw [← hr] at ht HS
  clear hr
  go_enter Tryz.func302, Tryz.ntmps302
  go_wp2
  go_ret
  refine ⟨?_, rfl⟩
  rw [← HS.out, Nat.min_eq_left (by omega)]
  simp
theorem new_at (n : Nat) (w : World) (h : 1 ≤ n) (h2 : n ≤ 1024) :
    Calls Tryz.prog 248 #[.int .i64 (n : Int)] w fun e w' => e = .returned (.pointer (some ⟨w.heap.size + 1, 0, none⟩)) ∧
      BmAt w' (w.heap.size + 1) w.heap.size n (List.replicate ((n + 63) / 64) 0) ∧ Below w.heap.size w w' ∧ w'.heap.size = w.heap.size + 2 := by
  obtain ⟨m, hm⟩ : ∃ m, m = (n + 63) / 64 := ⟨_, rfl⟩
  have hd : ((n : Int) + 64 - 1).tdiv 64 = ((m : Nat) : Int) := by
    rw [Int.tdiv_eq_ediv_of_nonneg (by omega)]
    omega
  have hm2 : m ≤ 1024 := by omega
  have HW : Hid _ := wf_zero n
  rw [← hm] at HW ⊢
  clear hm
  have hmk := fun w => make_words m hm2 w
  go_enter Tryz.func248, Tryz.ntmps248
  go_wp2
  go_ret
  refine ⟨rfl, ⟨?_, ?_, HW.out, h, h2⟩, below_alloc2 _ _ _, by simp⟩
  · have := heap_alloc_new (w.alloc (.cells (nrow (List.replicate m 0)) 46)) (.cells #[.int .i64 (n : Int), .slice (some ⟨w.heap.size, 0, none⟩) m m] 420)
    simpa using this
  · rw [Below.heap_alloc _ _ _ (by simp)]
    exact heap_alloc_new _ _
end Bi
end Go.Proofs.YtikjfdihocgfpaaGreatDoor
namespace Go.Proofs.YtikjfdihocgfpaaGreatDoor
open Go.RowKit
namespace Bi
/-- r is the lowest of n that is not, or -1. -/
def Low (f : Nat → Bool) (n : Nat) (r : Int) : Prop := (∃ k : Nat, r = (k : Int) ∧ k < n ∧ (∀ j, j < k → f j = true) ∧ f k = false) ∨ (r = -1 ∧ ∀ j, j < n → f j = true)
theorem Low.one {f : Nat → Bool} {n : Nat} {r s : Int} (h : Low f n r) (h' : Low f n s) : r = s := by
  rcases h with ⟨k, rfl, hk, h1, h2⟩ | ⟨rfl, h1⟩
  · rcases h' with ⟨k', rfl, hk', h1', h2'⟩ | ⟨rfl, h1'⟩
    · rcases Nat.lt_trichotomy k k' with q | q | q
      · rw [h1' k q] at h2; cases h2
      · rw [q]
      · rw [h1 k' q] at h2'; cases h2'
    · rw [h1' k hk] at h2; cases h2
  · rcases h' with ⟨k', rfl, hk', h1', h2'⟩ | ⟨rfl, h1'⟩
    · rw [h1 k' hk'] at h2'; cases h2'
    · rfl
set_option maxHeartbeats 800000 in
theorem mark_yes (b g n : Nat) (ws : List Nat) (i : Nat) (on : Bool) (w : World) (h : BmAt w b g n ws) (hi : i < n) :
    Calls Tryz.prog 249 #[.pointer (some ⟨b, 0, none⟩), .int .i64 (i : Int), .bool on] w fun e w' => e = .returned (.int .i64 0) ∧ BmAt w' b g n (mkW ws i on) ∧ Upd g w w' := by
  have hle := h.le
  have hI := is_at b g n ws i w h
  rw [inB_nat hi] at hI
  have hK := fun q => mask_at i (by omega) (w.drewN q)
  have hd := tdiv64 i
  have c1 := h.c1
  have hk : i / 64 < ws.length := h.wf.at hi
  have c2 := h.word hk
  have f2 := h.free (i / 64)
  have H : Hid (∀ q, BmAt ((w.drewN q).setCell ⟨g, i / 64, none⟩ (.int .u64 ((wd (ws.getD (i / 64) 0) i on : Nat) : Int))) b g n (mkW ws i on)) := fun q => (h.drew q).mark hi on
  have ha := set_bit (ws.getD (i / 64) 0) i (h.wf.word _)
  have hb := clear_bit (ws.getD (i / 64) 0) i (h.wf.word _)
  clear h
  cases on
  all_goals
    generalize wd (ws.getD (i / 64) 0) i true = r1 at *
    generalize wd (ws.getD (i / 64) 0) i false = r0 at *
    generalize ws.getD (i / 64) 0 = x at *
    generalize mk i = M at *
    obtain ⟨p, hp⟩ : ∃ p, p = i / 64 := ⟨_, rfl⟩
    have hwr := wrap_small p (by omega)
    rw [← hp] at hd hk c2 H f2
    clear hp
    generalize ws.length = L at *
    go_enter Tryz.func249, Tryz.ntmps249
    go_wp2_with fail
    refine hI.mono ?_
    rintro e w1 ⟨rfl, hw⟩
    rw [hw]
    clear hw w1 hI
    go_wp2
    go_region_with (go_at_call 302; refine (hK 1).mono ?_; rintro e w2 ⟨rfl, hw⟩; rw [hw]; clear hw w2)
    all_goals
      go_wp2
      go_ret
      exact ⟨rfl, H.out 1, (Upd.drew g w).trans (Upd.setCell g p w.drew _)⟩
end Bi
end Go.Proofs.YtikjfdihocgfpaaGreatDoor
namespace Go.Proofs.YtikjfdihocgfpaaGreatDoor
open Go.RowKit
namespace Bi
/-- The value v is a slice of the words ws, wherever they lie. -/
def NRd (w : World) (v : Value) (ws : List Nat) : Prop :=
  ∃ a cap, v = .slice a ws.length cap ∧ ws.length ≤ cap ∧ ∀ (j x : Nat), ws[j]? = some x → ∃ g off, a = some ⟨g, off, none⟩ ∧ w.cell? ⟨g, off + j, none⟩ = some (.int .u64 ((x : Nat) : Int))
theorem NRd.has {w : World} {v : Value} {ws : List Nat} (h : NRd w v ws) (hl : 0 < ws.length) : ∃ g o cap, v = .slice (some ⟨g, o, none⟩) ws.length cap ∧ ∀ (j x : Nat), ws[j]? = some x → w.cell? ⟨g, o + j, none⟩ = some (.int .u64 ((x : Nat) : Int)) := by
  obtain ⟨a, cap, e, _, hf⟩ := h
  obtain ⟨y, hy⟩ : ∃ y, ws[0]? = some y := ⟨ws[0], List.getElem?_eq_getElem (by omega)⟩
  obtain ⟨g, o, rfl, _⟩ := hf 0 y hy
  refine ⟨g, o, cap, e, fun j x hx => ?_⟩
  obtain ⟨g', o', e', hc⟩ := hf j x hx
  simp only [Option.some.injEq, Addr.mk.injEq] at e'
  obtain ⟨rfl, rfl, _⟩ := e'
  exact hc
theorem nrd_of_row {w : World} {g : Nat} {ws : List Nat} {t : TypeId} (h : w.heap[g]? = some (.cells (nrow ws) t)) : NRd w (.slice (some ⟨g, 0, none⟩) ws.length ws.length) ws :=
  ⟨_, _, rfl, Nat.le_refl _, fun j x hj => ⟨g, 0, rfl, by
    have hl := (List.getElem?_eq_some_iff.1 hj).1
    rw [cell_of_heap h, Nat.zero_add, nrow_get ws j hl, List.getD_eq_getElem?_getD, hj]
    rfl⟩⟩
/-- Words as cells. -/
def nvs (ws : List Nat) : List Value := ws.map (fun x => Value.int .u64 ((x : Nat) : Int))
theorem nvs_len (ws : List Nat) : (nvs ws).length = ws.length := by simp [nvs]
theorem nadd (g o j : Nat) : (⟨g, o, none⟩ : Addr).add j = ⟨g, o + j, none⟩ := by unfold Addr.add; split <;> simp_all
/-- A copy of words over as many. -/
theorem copy_words {w : World} {g : Nat} {us ws : List Nat} (h : w.heap[g]? = some (.cells (nrow us) 46)) (hl : us.length = ws.length) (p o : Nat)
    (hw : ∀ (j x : Nat), ws[j]? = some x → w.cell? ⟨p, o + j, none⟩ = some (.int .u64 ((x : Nat) : Int))) (ty : TypeId) (c1 c2 : Nat) :
    (Builtin.copy_ #[22, 22] ty #[.slice (some ⟨g, 0, none⟩) ws.length c1, .slice (some ⟨p, o, none⟩) ws.length c2]).run Tryz.prog w = .ok (goInt ws.length) (w.setRow g (nrow ws)) := by
  have hr := run_copy_row Tryz.prog w 22 22 ty 46 g 0 ws.length c1 ⟨p, o, none⟩ ws.length c2 (nrow us) 46 (nvs ws) Tryz.underlying22 (by kernel_rfl) h
    (by simp [nvs_len])
    (fun j v hv => by
      simp only [nvs, List.getElem?_map, Option.map_eq_some_iff] at hv
      obtain ⟨x, hx, rfl⟩ := hv
      rw [nadd]
      exact hw j x hx)
    (by simp [nvs_len, nrow_size, hl]) (fun v hv => by
      simp only [nvs, List.mem_map] at hv
      obtain ⟨x, _, rfl⟩ := hv
      rfl)
  rw [hr]
  have e : ((nrow us).toList.take 0 ++ nvs ws ++ (nrow us).toList.drop (0 + (nvs ws).length)).toArray = nrow ws := by
    apply Array.ext'
    simp [nrow, nvs, hl]
  rw [e, nvs_len]
theorem words_at (b g n : Nat) (ws : List Nat) (w : World) (h : BmAt w b g n ws) :
    Calls Tryz.prog 300 #[.pointer (some ⟨b, 0, none⟩)] w fun e w' => ∃ v, e = .returned v ∧ NRd w' v ws ∧ Below w.heap.size w w' := by
  have c1 := h.c1
  have hL : ws.length ≤ 1024 := by have := h.wf.len; have := h.le; omega
  have hb := below_alloc w (.cells (nrow (List.replicate ws.length 0)) 46)
  have c2 := (h.below hb).c1
  have hr := fun ty c c' => copy_words (w := w.alloc (.cells (nrow (List.replicate ws.length 0)) 46)) (us := List.replicate ws.length 0) (ws := ws) (heap_alloc_new _ _) (by simp) g 0 (fun j x hx => by
    have hj := (List.getElem?_eq_some_iff.1 hx).1
    have := (h.below hb).word hj
    rw [List.getD_eq_getElem?_getD, hx] at this
    rw [Nat.zero_add]
    exact this) ty c c'
  have hmk := fun w => make_words ws.length hL w
  rw [setRow_alloc_new] at hr
  have HN : Hid (NRd (w.alloc (.cells (nrow ws) 46)) (.slice (some ⟨w.heap.size, 0, none⟩) ws.length ws.length) ws) := nrd_of_row (heap_alloc_new _ _)
  have HBm : Hid (Below w.heap.size w (w.alloc (.cells (nrow ws) 46))) := below_alloc _ _
  clear h hb
  generalize nrow ws = R at *
  generalize nrow (List.replicate ws.length 0) = Z at *
  generalize hLL : ws.length = L at *
  clear hLL
  go_enter Tryz.func300, Tryz.ntmps300
  go_wp2
  go_ret
  exact ⟨_, rfl, HN.out, HBm.out⟩
end Bi
end Go.Proofs.YtikjfdihocgfpaaGreatDoor
