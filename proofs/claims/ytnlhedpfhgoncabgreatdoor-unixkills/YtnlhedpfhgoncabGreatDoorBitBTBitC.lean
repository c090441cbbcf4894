/- Package bitmap: first, count, Left, Mark, Take. -/
/- Package bitmap: Words, reachesPast, Of; janusref01.Words at two equal rows; what is none. -/
import Derived.Test.YtnlhedpfhgoncabGreatDoorFramesTBitA
import Derived.Deep.RegionWith
set_option linter.all false
namespace Go.Proofs.YtnlhedpfhgoncabGreatDoor
open Go.RowKit
namespace Bi
set_option maxHeartbeats 800000 in
theorem mark_yes (b g n : Nat) (ws : List Nat) (i : Nat) (on : Bool) (w : World) (h : BmAt w b g n ws) (hi : i < n) :
    Calls Tryz.prog 198 #[.pointer (some ⟨b, 0, none⟩), .int .i64 (i : Int), .bool on] w fun e w' => e = .returned (.int .i64 0) ∧ BmAt w' b g n (mkW ws i on) ∧ Upd g w w' := by
  have hle := h.le
  have hI := is_at b g n ws i w h
  rw [inB_nat hi] at hI
  have hK := fun q => mask_at i (by omega) (w.drewN q)
  have hd := tdiv64 i
  have c1 := h.c1
  have hk : i / 64 < ws.length := h.wf.at hi
  have c2 := h.word hk
  have f2 := h.free (i / 64)
  have H : Hid (∀ q, BmAt ((w.drewN q).setCell ⟨g, i / 64, none⟩ (.int .u64 ((wd (ws.getD (i / 64) 0) i on : Nat) : Int))) b g n (mkW ws i on)) := fun q => (h.drew q).mark hi on
  have ha := set_bit (ws.getD (i / 64) 0) i (h.wf.word _)
  have hb := clear_bit (ws.getD (i / 64) 0) i (h.wf.word _)
  clear h
  cases on
  all_goals
    generalize wd (ws.getD (i / 64) 0) i true = r1 at *
    generalize wd (ws.getD (i / 64) 0) i false = r0 at *
    generalize ws.getD (i / 64) 0 = x at *
    generalize mk i = M at *
    obtain ⟨p, hp⟩ : ∃ p, p = i / 64 := ⟨_, rfl⟩
    have hwr := wrap_small p (by omega)
    rw [← hp] at hd hk c2 H f2
    clear hp
    generalize ws.length = L at *
    go_enter Tryz.func198, Tryz.ntmps198
    go_wp2_with fail
    refine hI.mono ?_
    rintro e w1 ⟨rfl, hw⟩
    rw [hw]
    clear hw w1 hI
    go_wp2
    go_region_with (go_at_call 255; refine (hK 1).mono ?_; rintro e w2 ⟨rfl, hw⟩; rw [hw]; clear hw w2)
    all_goals
      go_wp2
      go_ret
      exact ⟨rfl, H.out 1, (Upd.drew g w).trans (Upd.setCell g p w.drew _)⟩
end Bi
end Go.Proofs.YtnlhedpfhgoncabGreatDoor
namespace Go.Proofs.YtnlhedpfhgoncabGreatDoor
open Go.RowKit
namespace Bi
/-- The value v is a slice of the words ws, wherever they lie. -/
def NRd (w : World) (v : Value) (ws : List Nat) : Prop :=
  ∃ a cap, v = .slice a ws.length cap ∧ ws.length ≤ cap ∧ ∀ (j x : Nat), ws[j]? = some x → ∃ g off, a = some ⟨g, off, none⟩ ∧ w.cell? ⟨g, off + j, none⟩ = some (.int .u64 ((x : Nat) : Int))
theorem NRd.has {w : World} {v : Value} {ws : List Nat} (h : NRd w v ws) (hl : 0 < ws.length) : ∃ g o cap, v = .slice (some ⟨g, o, none⟩) ws.length cap ∧ ∀ (j x : Nat), ws[j]? = some x → w.cell? ⟨g, o + j, none⟩ = some (.int .u64 ((x : Nat) : Int)) := by
  obtain ⟨a, cap, e, _, hf⟩ := h
  obtain ⟨y, hy⟩ : ∃ y, ws[0]? = some y := ⟨ws[0], List.getElem?_eq_getElem (by omega)⟩
  obtain ⟨g, o, rfl, _⟩ := hf 0 y hy
  refine ⟨g, o, cap, e, fun j x hx => ?_⟩
  obtain ⟨g', o', e', hc⟩ := hf j x hx
  simp only [Option.some.injEq, Addr.mk.injEq] at e'
  obtain ⟨rfl, rfl, _⟩ := e'
  exact hc
theorem nrd_of_row {w : World} {g : Nat} {ws : List Nat} {t : TypeId} (h : w.heap[g]? = some (.cells (nrow ws) t)) : NRd w (.slice (some ⟨g, 0, none⟩) ws.length ws.length) ws :=
  ⟨_, _, rfl, Nat.le_refl _, fun j x hj => ⟨g, 0, rfl, by
    have hl := (List.getElem?_eq_some_iff.1 hj).1
    rw [cell_of_heap h, Nat.zero_add, nrow_get ws j hl, List.getD_eq_getElem?_getD, hj]
    rfl⟩⟩
/-- Words as cells. -/
def nvs (ws : List Nat) : List Value := ws.map (fun x => Value.int .u64 ((x : Nat) : Int))
theorem nvs_len (ws : List Nat) : (nvs ws).length = ws.length := by simp [nvs]
theorem nadd (g o j : Nat) : (⟨g, o, none⟩ : Addr).add j = ⟨g, o + j, none⟩ := by unfold Addr.add; split <;> simp_all
/-- A copy of words over as many. -/
theorem copy_words {w : World} {g : Nat} {us ws : List Nat} (h : w.heap[g]? = some (.cells (nrow us) 40)) (hl : us.length = ws.length) (p o : Nat)
    (hw : ∀ (j x : Nat), ws[j]? = some x → w.cell? ⟨p, o + j, none⟩ = some (.int .u64 ((x : Nat) : Int))) (ty : TypeId) (c1 c2 : Nat) :
    (Builtin.copy_ #[46, 46] ty #[.slice (some ⟨g, 0, none⟩) ws.length c1, .slice (some ⟨p, o, none⟩) ws.length c2]).run Tryz.prog w = .ok (goInt ws.length) (w.setRow g (nrow ws)) := by
  have hr := run_copy_row Tryz.prog w 46 46 ty 40 g 0 ws.length c1 ⟨p, o, none⟩ ws.length c2 (nrow us) 40 (nvs ws) Tryz.underlying46 (by kernel_rfl) h
    (by simp [nvs_len])
    (fun j v hv => by
      simp only [nvs, List.getElem?_map, Option.map_eq_some_iff] at hv
      obtain ⟨x, hx, rfl⟩ := hv
      rw [nadd]
      exact hw j x hx)
    (by simp [nvs_len, nrow_size, hl]) (fun v hv => by
      simp only [nvs, List.mem_map] at hv
      obtain ⟨x, _, rfl⟩ := hv
      rfl)
  rw [hr]
  have e : ((nrow us).toList.take 0 ++ nvs ws ++ (nrow us).toList.drop (0 + (nvs ws).length)).toArray = nrow ws := by
    apply Array.ext'
    simp [nrow, nvs, hl]
  rw [e, nvs_len]
theorem words_at (b g n : Nat) (ws : List Nat) (w : World) (h : BmAt w b g n ws) :
    Calls Tryz.prog 253 #[.pointer (some ⟨b, 0, none⟩)] w fun e w' => ∃ v, e = .returned v ∧ NRd w' v ws ∧ Below w.heap.size w w' := by
  have c1 := h.c1
  have hL : ws.length ≤ 1024 := by have := h.wf.len; have := h.le; omega
  have hb := below_alloc w (.cells (nrow (List.replicate ws.length 0)) 40)
  have c2 := (h.below hb).c1
  have hr := fun ty c c' => copy_words (w := w.alloc (.cells (nrow (List.replicate ws.length 0)) 40)) (us := List.replicate ws.length 0) (ws := ws) (heap_alloc_new _ _) (by simp) g 0 (fun j x hx => by
    have hj := (List.getElem?_eq_some_iff.1 hx).1
    have := (h.below hb).word hj
    rw [List.getD_eq_getElem?_getD, hx] at this
    rw [Nat.zero_add]
    exact this) ty c c'
  have hmk := fun w => make_words ws.length hL w
  rw [setRow_alloc_new] at hr
  have HN : Hid (NRd (w.alloc (.cells (nrow ws) 40)) (.slice (some ⟨w.heap.size, 0, none⟩) ws.length ws.length) ws) := nrd_of_row (heap_alloc_new _ _)
  have HBm : Hid (Below w.heap.size w (w.alloc (.cells (nrow ws) 40))) := below_alloc _ _
  clear h hb
  generalize nrow ws = R at *
  generalize nrow (List.replicate ws.length 0) = Z at *
  generalize hLL : ws.length = L at *
  clear hLL
  go_enter Tryz.func253, Tryz.ntmps253
  go_wp2
  go_ret
  exact ⟨_, rfl, HN.out, HBm.out⟩
end Bi
end Go.Proofs.YtnlhedpfhgoncabGreatDoor
