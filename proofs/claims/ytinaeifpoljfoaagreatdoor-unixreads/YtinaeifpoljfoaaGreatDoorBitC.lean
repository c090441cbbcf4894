import Derived.Test.YtinaeifpoljfoaaGreatDoorFramesTBitB
set_option linter.all false
set_option maxRecDepth 100000
set_option maxHeartbeats 16000000
namespace Go.Proofs.YtinaeifpoljfoaaGreatDoor
open Go.RowKit
namespace Bi
def NRd (w : World) (v : Value) (ws : List Nat) : Prop :=
 ∃ a cap, v = .slice a ws.length cap ∧ ws.length ≤ cap ∧ ∀ (j x : Nat), ws[j]? = some x → ∃ g off, a = some ⟨g, off, none⟩ ∧ w.cell? ⟨g, off + j, none⟩ = some (.int .u64 ((x : Nat) : Int))
theorem NRd.has {w : World} {v : Value} {ws : List Nat} (h : NRd w v ws) (hl : 0 < ws.length) : ∃ g o cap, v = .slice (some ⟨g, o, none⟩) ws.length cap ∧ ∀ (j x : Nat), ws[j]? = some x → w.cell? ⟨g, o + j, none⟩ = some (.int .u64 ((x : Nat) : Int)) := by
 obtain ⟨a, cap, e, _, hf⟩ := h;obtain ⟨y, hy⟩ : ∃ y, ws[0]? = some y := ⟨ws[0], List.getElem?_eq_getElem (by omega)⟩;obtain ⟨g, o, rfl, _⟩ := hf 0 y hy;refine ⟨g, o, cap, e, fun j x hx => ?_⟩;obtain ⟨g', o', e', hc⟩ := hf j x hx;simp only [Option.some.injEq, Addr.mk.injEq] at e';obtain ⟨rfl, rfl, _⟩ := e';exact hc
theorem nrd_of_row {w : World} {g : Nat} {ws : List Nat} {t : TypeId} (h : w.heap[g]? = some (.cells (nrow ws) t)) : NRd w (.slice (some ⟨g, 0, none⟩) ws.length ws.length) ws :=
 ⟨_, _, rfl, Nat.le_refl _, fun j x hj => ⟨g, 0, rfl, by
   have hl := (List.getElem?_eq_some_iff.1 hj).1;rw [cell_of_heap h, Nat.zero_add, nrow_get ws j hl, List.getD_eq_getElem?_getD, hj]
   rfl⟩⟩
def nvs (ws : List Nat) : List Value := ws.map (fun x => Value.int .u64 ((x : Nat) : Int))
theorem nvs_len (ws : List Nat) : (nvs ws).length = ws.length := by simp [nvs]
theorem nadd (g o j : Nat) : (⟨g, o, none⟩ : Addr).add j = ⟨g, o + j, none⟩ := by unfold Addr.add; split <;> simp_all
theorem copy_words {w : World} {g : Nat} {us ws : List Nat} (h : w.heap[g]? = some (.cells (nrow us) 45)) (hl : us.length = ws.length) (p o : Nat)
  (hw : ∀ (j x : Nat), ws[j]? = some x → w.cell? ⟨p, o + j, none⟩ = some (.int .u64 ((x : Nat) : Int))) (ty : TypeId) (c1 c2 : Nat) :
  (Builtin.copy_ #[22, 22] ty #[.slice (some ⟨g, 0, none⟩) ws.length c1, .slice (some ⟨p, o, none⟩) ws.length c2]).run Tryz.prog w = .ok (goInt ws.length) (w.setRow g (nrow ws)) := by
 have hr := run_copy_row Tryz.prog w 22 22 ty 45 g 0 ws.length c1 ⟨p, o, none⟩ ws.length c2 (nrow us) 45 (nvs ws) Tryz.underlying22 (by kernel_rfl) h
  (by simp [nvs_len])
  (fun j v hv => by
    simp only [nvs, List.getElem?_map, Option.map_eq_some_iff] at hv;obtain ⟨x, hx, rfl⟩ := hv;rw [nadd]
    exact hw j x hx)
  (by simp [nvs_len, nrow_size, hl]) (fun v hv => by
    simp only [nvs, List.mem_map] at hv;obtain ⟨x, _, rfl⟩ := hv
    rfl)
 rw [hr]
 have e : ((nrow us).toList.take 0 ++ nvs ws ++ (nrow us).toList.drop (0 + (nvs ws).length)).toArray = nrow ws := by
  apply Array.ext'
  simp [nrow, nvs, hl]
 rw [e, nvs_len]
theorem words_at (b g n : Nat) (ws : List Nat) (w : World) (h : BmAt w b g n ws) :
  Calls Tryz.prog 283 #[.pointer (some ⟨b, 0, none⟩)] w fun e w' => ∃ v, e = .returned v ∧ NRd w' v ws ∧ Below w.heap.size w w' := by
 have c1 := h.c1
 have hL : ws.length ≤ 1024 := by have := h.wf.len; have := h.le; omega
 have hb := below_alloc w (.cells (nrow (List.replicate ws.length 0)) 45);have c2 := (h.below hb).c1
 have hr := fun ty c c' => copy_words (w := w.alloc (.cells (nrow (List.replicate ws.length 0)) 45)) (us := List.replicate ws.length 0) (ws := ws) (heap_alloc_new _ _) (by simp) g 0 (fun j x hx => by
   have hj := (List.getElem?_eq_some_iff.1 hx).1;have := (h.below hb).word hj;rw [List.getD_eq_getElem?_getD, hx] at this;rw [Nat.zero_add]
   exact this) ty c c'
 have hmk := fun w => make_words ws.length hL w
 rw [setRow_alloc_new] at hr;have HN : Hid (NRd (w.alloc (.cells (nrow ws) 45)) (.slice (some ⟨w.heap.size, 0, none⟩) ws.length ws.length) ws) := nrd_of_row (heap_alloc_new _ _);have HBm : Hid (Below w.heap.size w (w.alloc (.cells (nrow ws) 45))) := below_alloc _ _;clear h hb;generalize nrow ws = R at *;generalize nrow (List.replicate ws.length 0) = Z at *;generalize hLL : ws.length = L at *;clear hLL
 go_enter Tryz.func283, Tryz.ntmps283
 go_wp2;go_ret;exact ⟨_, rfl, HN.out, HBm.out⟩
end Bi
end Go.Proofs.YtinaeifpoljfoaaGreatDoor
