/- A kernel of blocks that is none; a deed of januslaw12 as cells. -/
import Derived.Test.YtfnafjddajgahabXdW
import Derived.Test.YtfnafjddajgahabKinds
namespace Go.Proofs.Ytfnafjddajgahab
open Go.ChangeShapes Go.WideShapes Go.ChangeAt Go.RowKit Ca
set_option linter.unusedVariables false

theorem xalloc_nil (e f k : Int) (w : World) :
    Calls Try.prog 7 #[.pointer none, .int .i64 e, .int .i64 f, .int .i64 k] w fun x w' => x = .returned (.tuple #[.int .i64 0, .int .i64 101]) ∧ w' = w := by
  go_enter Try.func7, Try.ntmps7
  go_wp2
  go_ret2
  exact ⟨rfl, rfl⟩
theorem xgrant_nil (e s q r : Int) (w : World) :
    Calls Try.prog 14 #[.pointer none, .int .i64 e, .int .i64 s, .int .i64 q, .int .i64 r] w fun x w' => x = .returned (.tuple #[.int .i64 0, .int .i64 101]) ∧ w' = w := by
  go_enter Try.func14, Try.ntmps14
  go_wp2
  go_ret2
  exact ⟨rfl, rfl⟩
theorem xget_nil (e s b : Int) (w : World) :
    Calls Try.prog 15 #[.pointer none, .int .i64 e, .int .i64 s, .int .i64 b] w fun x w' => x = .returned (.tuple #[.slice none 0 0, .int .i64 101]) ∧ w' = w := by
  go_enter Try.func15, Try.ntmps15
  go_wp2
  go_ret2
  exact ⟨rfl, rfl⟩
theorem xview_nil (e s : Int) (w : World) :
    Calls Try.prog 16 #[.pointer none, .int .i64 e, .int .i64 s] w fun x w' => x = .returned (.pointer none) ∧ w' = w := by
  go_enter Try.func16, Try.ntmps16
  go_wp2
  go_ret
  exact ⟨rfl, rfl⟩
theorem xgone_nil (e : Int) (w : World) :
    Calls Try.prog 18 #[.pointer none, .int .i64 e] w fun x w' => x = .returned (.tuple #[]) ∧ w' = w := by
  go_enter Try.func18, Try.ntmps18
  go_wp2
  refine bodyPost_ret (results_none rfl _ _ _) rfl ?_
  exact ⟨rfl, rfl⟩
theorem xrevoke_nil (e s : Int) (w : World) :
    Calls Try.prog 19 #[.pointer none, .int .i64 e, .int .i64 s] w fun x w' => x = .returned (.int .i64 101) ∧ w' = w := by
  go_enter Try.func19, Try.ntmps19
  go_wp2
  go_ret
  exact ⟨rfl, rfl⟩
theorem xput_nil (e s b : Int) (v : Value) (w : World) :
    Calls Try.prog 8 #[.pointer none, .int .i64 e, .int .i64 s, .int .i64 b, v] w fun x w' => x = .returned (.int .i64 101) ∧ w' = w := by
  go_enter Try.func8, Try.ntmps8
  go_wp2
  go_ret
  exact ⟨rfl, rfl⟩
theorem xsync_nil (w : World) :
    Calls Try.prog 10 #[.pointer none] w fun x w' => x = .returned (.int .i64 0) ∧ w' = w := by
  go_enter Try.func10, Try.ntmps10
  go_wp2
  go_ret
  exact ⟨rfl, rfl⟩
theorem xcached_nil (w : World) :
    Calls Try.prog 20 #[.pointer none] w fun x w' => x = .returned (.slice none 0 0) ∧ w' = w := by
  go_enter Try.func20, Try.ntmps20
  go_wp2
  go_ret
  exact ⟨rfl, rfl⟩
theorem xdisk_nil (b : Int) (w : World) :
    Calls Try.prog 12 #[.pointer none, .int .i64 b] w fun x w' => x = .returned (.slice none 0 0) ∧ w' = w := by
  go_enter Try.func12, Try.ntmps12
  go_wp2
  go_ret
  exact ⟨rfl, rfl⟩
theorem xfind_nil (b r : Int) (w : World) :
    Calls Try.prog 34 #[.pointer none, .int .i64 b, .int .i64 r] w fun x w' => x = .returned (.tuple #[.int .i64 0, .int .i64 101]) ∧ w' = w := by
  go_enter Try.func34, Try.ntmps34
  go_wp2
  go_ret2
  exact ⟨rfl, rfl⟩
theorem xvget_nil (b : Int) (w : World) :
    Calls Try.prog 17 #[.pointer none, .int .i64 b] w fun x w' => x = .returned (.tuple #[.slice none 0 0, .int .i64 101]) ∧ w' = w := by
  go_enter Try.func17, Try.ntmps17
  go_wp2_with (go_at_call 34; refine (xfind_nil _ _ _).mono ?_; rintro x w1 ⟨rfl, rfl⟩)
  go_ret2
  exact ⟨rfl, rfl⟩
theorem xvput_nil (b : Int) (v : Value) (w : World) :
    Calls Try.prog 21 #[.pointer none, .int .i64 b, v] w fun x w' => x = .returned (.int .i64 101) ∧ w' = w := by
  go_enter Try.func21, Try.ntmps21
  go_wp2_with (go_at_call 34; refine (xfind_nil _ _ _).mono ?_; rintro x w1 ⟨rfl, rfl⟩)
  go_ret
  exact ⟨rfl, rfl⟩

/-- A deed. -/
structure De where
  kind : Int
  env : Int
  slot : Int
  dst : Int
  first : Int
  n : Int
  v : Int
structure De.Fit (d : De) : Prop where
  fk : I64 d.kind
  fe : I64 d.env
  fs : I64 d.slot
  ft : I64 d.dst
  ff : I64 d.first
  fn : I64 d.n
abbrev deRow (d : De) : Array Value := #[.int .i64 d.kind, .int .i64 d.env, .int .i64 d.slot, .int .i64 d.dst, .int .i64 d.first, .int .i64 d.n, .int .u64 d.v]
/-- A deed at a place of a block. -/
def DeAt (w : World) (gb o : Nat) (d : De) : Prop :=
  (w.cell? ⟨gb, o, none⟩ = some (.int .i64 d.kind) ∧ w.cell? ⟨gb, o + 1, none⟩ = some (.int .i64 d.env) ∧ w.cell? ⟨gb, o + 2, none⟩ = some (.int .i64 d.slot) ∧ w.cell? ⟨gb, o + 3, none⟩ = some (.int .i64 d.dst)) ∧
    w.cell? ⟨gb, o + 4, none⟩ = some (.int .i64 d.first) ∧ w.cell? ⟨gb, o + 5, none⟩ = some (.int .i64 d.n) ∧ w.cell? ⟨gb, o + 6, none⟩ = some (.int .u64 d.v)
theorem deCells {w : World} {g : Nat} {d : De} {t : TypeId} (h : w.heap[g]? = some (.cells (deRow d) t)) : DeAt w g 0 d := by
  refine ⟨⟨?_, ?_, ?_, ?_⟩, ?_, ?_, ?_⟩ <;> (rw [cell_of_heap h]; rfl)
abbrev deCK : List CK := [.i .i64, .i .i64, .i .i64, .i .i64, .i .i64, .i .i64, .i .u64]
theorem deKinds : kindsOf Try.prog 9 32 = some deCK := by kernel_rfl
theorem deSize : Try.prog.cellsOf 32 = 7 := by kernel_rfl
theorem deOf {l : List Value} (h : Fits deCK l) : ∃ d : De, d.Fit ∧ l = (deRow d).toList := by
  obtain ⟨_, _, rfl, ⟨a, rfl, ha⟩, _, _, rfl, ⟨b, rfl, hb⟩, _, _, rfl, ⟨c, rfl, hc⟩, _, _, rfl, ⟨d, rfl, hd⟩, _, _, rfl, ⟨e, rfl, he⟩, _, _, rfl, ⟨g, rfl, hg⟩, _, _, rfl, ⟨i, rfl, hi⟩, rfl⟩ := h
  exact ⟨⟨a, b, c, d, e, g, i⟩, ⟨bounds_i64 ha, bounds_i64 hb, bounds_i64 hc, bounds_i64 hd, bounds_i64 he, bounds_i64 hg⟩, rfl⟩
theorem DeAt.below {w w' : World} {gb o : Nat} {d : De} (h : DeAt w gb o d) (hb : Below w.heap.size w w') : DeAt w' gb o d := by
  obtain ⟨⟨a0, a1, a2, a3⟩, a4, a5, a6⟩ := h
  exact ⟨⟨(hb.cell (cell_lt a0)).trans a0, (hb.cell (cell_lt a1)).trans a1, (hb.cell (cell_lt a2)).trans a2, (hb.cell (cell_lt a3)).trans a3⟩, (hb.cell (cell_lt a4)).trans a4, (hb.cell (cell_lt a5)).trans a5, (hb.cell (cell_lt a6)).trans a6⟩
/-- A slice at a0 holds so many deeds. -/
def DesAt (w : World) (a0 : Option Addr) (len : Nat) : Prop := ∀ j, j < len → ∃ gb off d, a0 = some ⟨gb, off, none⟩ ∧ d.Fit ∧ DeAt w gb (off + j * 7) d
theorem DesAt.below {w w' : World} {a0 : Option Addr} {len : Nat} (h : DesAt w a0 len) (hb : Below w.heap.size w w') : DesAt w' a0 len := by
  intro j hj
  obtain ⟨gb, off, d, e, hf, hc⟩ := h j hj
  exact ⟨gb, off, d, e, hf, hc.below hb⟩
theorem des_of {w : World} {a0 : Option Addr} {len : Nat} (h : ∀ j, j < len → ∃ gb off cs, a0 = some ⟨gb, off, none⟩ ∧ Fits deCK cs ∧ ∀ i u, cs[i]? = some u → w.cell? ⟨gb, off + j * 7 + i, none⟩ = some u) : DesAt w a0 len := by
  intro j hj
  obtain ⟨gb, off, cs, ea, hfit, hcell⟩ := h j hj
  obtain ⟨d, hd, rfl⟩ := deOf hfit
  exact ⟨gb, off, d, ea, hd, ⟨hcell 0 _ rfl, hcell 1 _ rfl, hcell 2 _ rfl, hcell 3 _ rfl⟩, hcell 4 _ rfl, hcell 5 _ rfl, hcell 6 _ rfl⟩
end Go.Proofs.Ytfnafjddajgahab
