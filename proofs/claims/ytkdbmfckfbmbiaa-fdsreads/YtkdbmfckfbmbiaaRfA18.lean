/- The reference of package fds in the heap: less, at, Pid, free, Left. -/
import Derived.Test.YtkdbmfckfbmbiaaFdG
import Derived.Test.YtkdbmfckfbmbiaaRfO18
import Derived.ChangeKeysEq
namespace Go.Proofs.Ytkdbmfckfbmbiaa
open Go.RowKit
set_option linter.unusedVariables false
set_option linter.unusedSimpArgs false

/-- A descriptor's two cells. -/
def pr (k : Nat) : List Value := [.int .i64 ((k / 6 + 1 : Nat) : Int), .int .i64 ((k % 6 : Nat) : Int)]
def prs (d : List Nat) : List Value := d.flatMap pr
theorem prs_app (d e : List Nat) : prs (d ++ e) = prs d ++ prs e := by simp [prs]
theorem prs_len : ∀ d : List Nat, (prs d).length = d.length * 2
  | [] => rfl
  | k :: d => by
    have := prs_len d
    unfold prs at *
    rw [List.flatMap_cons, List.length_append, this]
    simp [pr]
    omega
theorem prs_one (d : List Nat) : ∀ u ∈ prs d, u.oneCell' = true := by
  intro u hu
  simp only [prs, List.mem_flatMap] at hu
  obtain ⟨k, _, hk⟩ := hu
  simp [pr] at hk
  rcases hk with rfl | rfl <;> rfl
theorem prs_get : ∀ (d : List Nat) (j k : Nat), d[j]? = some k → (prs d)[j * 2]? = some (.int .i64 ((k / 6 + 1 : Nat) : Int)) ∧ (prs d)[j * 2 + 1]? = some (.int .i64 ((k % 6 : Nat) : Int))
  | [], j, k, h => by simp at h
  | c :: d, 0, k, h => by
    simp at h
    subst h
    exact ⟨rfl, rfl⟩
  | c :: d, j + 1, k, h => by
    have := prs_get d j k (by simpa using h)
    have e : prs (c :: d) = pr c ++ prs d := rfl
    rw [e, List.getElem?_append_right (by simp [pr]; omega), List.getElem?_append_right (by simp [pr]; omega)]
    simp only [pr, List.length_cons, List.length_nil]
    rw [show (j + 1) * 2 - (0 + 1 + 1) = j * 2 by omega, show (j + 1) * 2 + 1 - (0 + 1 + 1) = j * 2 + 1 by omega]
    exact this
/-- Descriptors that can be read. -/
def PRd (w : World) (a : Option Addr) (d : List Nat) : Prop := ∀ (j k : Nat), d[j]? = some k → ∃ g, a = some ⟨g, 0, none⟩ ∧ (∃ cs fr, w.heap[g]? = some (.cells cs 77 fr)) ∧ w.cell? ⟨g, j * 2, none⟩ = some (.int .i64 ((k / 6 + 1 : Nat) : Int)) ∧ w.cell? ⟨g, j * 2 + 1, none⟩ = some (.int .i64 ((k % 6 : Nat) : Int))
theorem PRd.keep {w w' : World} {a : Option Addr} {d : List Nat} (h : PRd w a d) (hk : ∀ (g : Nat) (cs : Array Value) (fr : Nat × Nat), w.heap[g]? = some (.cells cs 77 fr) → w'.heap[g]? = some (.cells cs 77 fr)) : PRd w' a d := by
  intro j k hj
  obtain ⟨g, e, ⟨cs, fr, hg⟩, c1, c2⟩ := h j k hj
  have hg' := hk g cs fr hg
  refine ⟨g, e, ⟨cs, fr, hg'⟩, ?_, ?_⟩
  · rw [cell_of_heap hg'] ; rw [cell_of_heap hg] at c1; exact c1
  · rw [cell_of_heap hg'] ; rw [cell_of_heap hg] at c2; exact c2
theorem PRd.below {w w' : World} {a : Option Addr} {d : List Nat} (h : PRd w a d) (hb : Below w.heap.size w w') : PRd w' a d := h.keep (fun g cs fr hg => (hb.block g (lt_of_heap hg)).trans hg)
theorem PRd.of_own {w : World} {B : Nat} {a : Option Addr} {n cap : Nat} {d : List Nat} (h : w.ownsRow B 77 2 (.slice a n cap) d.length (prs d)) : PRd w a d := by
  intro j k hj
  have hl := (List.getElem?_eq_some_iff.1 hj).1
  rcases h.2 with ⟨e, e2⟩ | ⟨g, cap', cur, e, _, hh, _, _, _, ht⟩
  · omega
  · simp only [Value.slice.injEq] at e
    obtain ⟨rfl, _, _⟩ := e
    obtain ⟨h1, h2⟩ := prs_get d j k hj
    rw [← ht, List.getElem?_take_of_lt (by omega)] at h1 h2
    refine ⟨g, rfl, ⟨cur, _, hh⟩, ?_, ?_⟩
    · rw [cell_of_heap hh]; simpa using h1
    · rw [cell_of_heap hh]; simpa using h2
/-- The cells of files. -/
def ec (e : En) : List Value := [.int .i64 e.x.kind, .int .i64 e.x.id, .int .i64 e.x.off, .bool e.x.app, .int .i64 e.x.refs, .slice e.a e.d.length e.cap]
def ecs (L : List En) : List Value := L.flatMap ec
def ecGet (e : En) : Nat → Value
  | 0 => .int .i64 e.x.kind
  | 1 => .int .i64 e.x.id
  | 2 => .int .i64 e.x.off
  | 3 => .bool e.x.app
  | 4 => .int .i64 e.x.refs
  | _ => .slice e.a e.d.length e.cap
theorem ecs_app (L M : List En) : ecs (L ++ M) = ecs L ++ ecs M := by simp [ecs]
theorem ecs_len : ∀ L : List En, (ecs L).length = L.length * 6
  | [] => rfl
  | k :: d => by
    have := ecs_len d
    unfold ecs at *
    rw [List.flatMap_cons, List.length_append, this]
    simp [ec]
    omega
theorem ecs_one (L : List En) : ∀ u ∈ ecs L, u.oneCell' = true := by
  intro u hu
  simp only [ecs, List.mem_flatMap] at hu
  obtain ⟨k, _, hk⟩ := hu
  simp [ec] at hk
  rcases hk with rfl | rfl | rfl | rfl | rfl | rfl <;> rfl
theorem ecs_get : ∀ (L : List En) (j m : Nat) (e : En), L[j]? = some e → m < 6 → (ecs L)[j * 6 + m]? = some (ecGet e m)
  | [], j, m, e, h, _ => by simp at h
  | c :: L, 0, m, e, h, hm => by
    simp at h
    subst h
    have e1 : ecs (c :: L) = ec c ++ ecs L := rfl
    rw [e1, List.getElem?_append_left (by simp [ec]; omega)]
    obtain rfl | rfl | rfl | rfl | rfl | rfl : m = 0 ∨ m = 1 ∨ m = 2 ∨ m = 3 ∨ m = 4 ∨ m = 5 := by omega
    all_goals rfl
  | c :: L, j + 1, m, e, h, hm => by
    have := ecs_get L j m e (by simpa using h) hm
    have e1 : ecs (c :: L) = ec c ++ ecs L := rfl
    rw [e1, List.getElem?_append_right (by simp [ec]; omega), ← this]
    congr 1
    simp [ec]
    omega
/-- Block c holds the reference's files. -/
structure RIs (w : World) (B c : Nat) (v : Value) (L : List En) : Prop where
  head : w.heap[c]? = some (.cells #[v] 28)
  own : w.ownsRow B 80 6 v L.length (ecs L)
  rd : ∀ e ∈ L, PRd w e.a e.d ∧ e.d.length ≤ e.cap
  cB : B ≤ c
section
variable {w w' : World} {B c : Nat} {v : Value} {L : List En}
theorem RIs.lt (h : RIs w B c v L) : c < w.heap.size := lt_of_heap h.head
theorem RIs.keep (h : RIs w B c v L) (hk : ∀ (k : Nat) (cs : Array Value) (t : TypeId) (fr : Nat × Nat), w.heap[k]? = some (.cells cs t fr) → (t = 28 ∨ t = 80 ∨ t = 77) → w'.heap[k]? = some (.cells cs t fr)) : RIs w' B c v L := by
  refine ⟨hk _ _ _ _ h.head (Or.inl rfl), ownsRow_at h.own (fun g hg => ?_), fun m hm => ⟨(h.rd m hm).1.keep (fun k cs fr hh => hk _ _ _ _ hh (Or.inr (Or.inr rfl))), (h.rd m hm).2⟩, h.cB⟩
  obtain ⟨cs, hcs⟩ := own_type h.own hg
  rw [hcs]
  exact hk _ _ _ _ hcs (Or.inr (Or.inl rfl))
theorem RIs.below (h : RIs w B c v L) (hb : Below w.heap.size w w') : RIs w' B c v L := h.keep (fun k cs t fr hk _ => (hb.block k (lt_of_heap hk)).trans hk)
theorem RIs.c0 (h : RIs w B c v L) : w.cell? ⟨c, 0, none⟩ = some v := by rw [cell_of_heap h.head]; rfl
theorem RIs.free (h : RIs w B c v L) : w.frozen? ⟨c, 0, none⟩ = false := frozen_of_heap h.head
theorem RIs.form (h : RIs w B c v L) : ∃ a cap, v = .slice a L.length cap ∧ L.length ≤ cap := by
  obtain ⟨a, cap, rfl⟩ := own_slice h.own
  exact ⟨a, cap, rfl, own_cap h.own⟩
/-- A file's cells. -/
theorem RIs.at (h : RIs w B c v L) {j : Nat} {e : En} (he : L[j]? = some e) : ∃ g cap, v = .slice (some ⟨g, 0, none⟩) L.length cap ∧ B ≤ g ∧ (∃ cs, w.heap[g]? = some (.cells cs 80 (0, 0))) ∧ ∀ m, m < 6 → w.cell? ⟨g, j * 6 + m, none⟩ = some (ecGet e m) := by
  have hj : j < L.length := (List.getElem?_eq_some_iff.1 he).1
  rcases h.own.2 with ⟨_, e2⟩ | ⟨g, cap, cur, e2, hB, hh, q1, _, _, q4⟩
  · omega
  · refine ⟨g, cap, e2, hB, ⟨cur, hh⟩, fun m hm => ?_⟩
    have h1 := ecs_get L j m e he hm
    rw [← q4, List.getElem?_take_of_lt (by omega)] at h1
    rw [cell_of_heap hh]
    simpa using h1
end

theorem pairUnder : Try.prog.underlying 77 = some (.array 2 3) := by kernel_rfl
theorem intCells' : Try.prog.cellsOf 3 = 1 := by kernel_rfl
theorem intPlain' : Try.prog.plainKey 3 = true := by kernel_rfl
theorem pair_eqIn (a b x y : Int) (W : World) : (Op.equalIn 10000 77 (.agg #[.int .i64 a, .int .i64 b]) (.agg #[.int .i64 x, .int .i64 y])).run Try.prog W = .ok (a == x && b == y) W := by
  have hq : (Try.prog.info? 3).isSome = true := by kernel_rfl
  obtain ⟨i0, hi0⟩ := Option.isSome_iff_exists.mp hq
  have ep1 : (#[.int .i64 a, .int .i64 b] : Array Value)[0]? = some (.int .i64 a) := rfl
  have p1 := run_part_plain (P := Try.prog) W intPlain' ep1
  have ep2 : (#[.int .i64 a, .int .i64 b] : Array Value)[1]? = some (.int .i64 b) := rfl
  have p2 := run_part_plain (P := Try.prog) W intPlain' ep2
  have ep3 : (#[.int .i64 x, .int .i64 y] : Array Value)[0]? = some (.int .i64 x) := rfl
  have p3 := run_part_plain (P := Try.prog) W intPlain' ep3
  have ep4 : (#[.int .i64 x, .int .i64 y] : Array Value)[1]? = some (.int .i64 y) := rfl
  have p4 := run_part_plain (P := Try.prog) W intPlain' ep4
  have q1 : (Op.equalIn 9999 3 (.int .i64 a) (.int .i64 x)).run Try.prog W = .ok (a == x) W := run_equalIn_int (P := Try.prog) W 9998 3 .i64 .i64 a x Try.underlying3
  have q2 : (Op.equalIn 9999 3 (.int .i64 b) (.int .i64 y)).run Try.prog W = .ok (b == y) W := run_equalIn_int (P := Try.prog) W 9998 3 .i64 .i64 b y Try.underlying3
  rw [run_equalIn_array W 9999 _ _ pairUnder hi0, intCells']
  show (Op.eqItems 9999 3 1 _ _ [0, 1]).run Try.prog W = _
  simp only [Op.eqItems, Nat.mul_one, Nat.zero_mul, Sem.run_bind, p1, p2, p3, p4, Result.andThen_ok, q1, q2]
  generalize (a == x) = r1
  cases r1 with
  | false => simp
  | true =>
    generalize (b == y) = r2 at *
    cases r2 <;> simp [p2, p4, q2]
theorem pair_eq (a b x y : Int) (W : World) : (binOp .eql 77 (.agg #[.int .i64 a, .int .i64 b]) (.agg #[.int .i64 x, .int .i64 y])).run Try.prog W = .ok (.bool (a == x && b == y)) W := by
  have h2 := pair_eqIn a b x y W
  generalize (a == x && b == y) = r at *
  go_simp
theorem pair_ne (a b x y : Int) (W : World) : (binOp .neq 77 (.agg #[.int .i64 a, .int .i64 b]) (.agg #[.int .i64 x, .int .i64 y])).run Try.prog W = .ok (.bool (!(a == x && b == y))) W := by
  have h2 := pair_eqIn a b x y W
  generalize (a == x && b == y) = r at *
  go_simp
theorem isK_def (pid fd : Int) (k : Nat) : (((k / 6 + 1 : Nat) : Int) == pid && ((k % 6 : Nat) : Int) == fd) = isK pid fd k := rfl

theorem less_at (j k : Nat) (w : World) :
    Calls Try.prog 53 #[.agg #[.int .i64 ((j / 6 + 1 : Nat) : Int), .int .i64 ((j % 6 : Nat) : Int)], .agg #[.int .i64 ((k / 6 + 1 : Nat) : Int), .int .i64 ((k % 6 : Nat) : Int)]] w fun e w' => e = .returned (.bool (decide (j < k))) ∧ Below w.heap.size w w' := by
  have hR : decide (j < k) = (decide (((j / 6 + 1 : Nat) : Int) < ((k / 6 + 1 : Nat) : Int)) || (((j / 6 + 1 : Nat) : Int) == ((k / 6 + 1 : Nat) : Int) && decide (((j % 6 : Nat) : Int) < ((k % 6 : Nat) : Int)))) := by
    rw [Bool.eq_iff_iff]
    simp only [Bool.or_eq_true, Bool.and_eq_true, decide_eq_true_eq, beq_iff_eq]
    omega
  rw [hR]
  clear hR
  generalize ((j / 6 + 1 : Nat) : Int) = a
  generalize ((j % 6 : Nat) : Int) = b
  generalize ((k / 6 + 1 : Nat) : Int) = x
  generalize ((k % 6 : Nat) : Int) = y
  by_cases h1 : a < x
  · have g1 : decide (a < x) = true := decide_eq_true h1
    have HR : Hid ((decide (a < x) || (a == x && decide (b < y))) = true) := by show _ = _; rw [g1]; rfl
    go_enter Try.func53, Try.ntmps53
    go_wp2
    go_ret
    exact ⟨by first | rfl | (rw [HR.out]; rfl), below_alloc2 _ _ _⟩
  · have g1 : decide (a < x) = false := decide_eq_false h1
    by_cases h2 : a = x
    · have g2 : (a == x) = true := by simp [h2]
      have HR : Hid ((decide (a < x) || (a == x && decide (b < y))) = decide (b < y)) := by show _ = _; rw [g1, g2]; rfl
      by_cases h3 : b < y
      · have g3 : decide (b < y) = true := decide_eq_true h3
        clear h2
        go_enter Try.func53, Try.ntmps53
        go_wp2
        go_ret
        exact ⟨by first | rfl | (rw [HR.out, g3]; rfl), below_alloc2 _ _ _⟩
      · have g3 : decide (b < y) = false := decide_eq_false h3
        clear h2
        go_enter Try.func53, Try.ntmps53
        go_wp2
        go_ret
        exact ⟨by first | rfl | (rw [HR.out, g3]; rfl), below_alloc2 _ _ _⟩
    · have g2 : (a == x) = false := by simp [h2]
      have HR : Hid ((decide (a < x) || (a == x && decide (b < y))) = false) := by show _ = _; rw [g1, g2]; rfl
      go_enter Try.func53, Try.ntmps53
      go_wp2
      go_ret
      exact ⟨by first | rfl | (rw [HR.out]; rfl), below_alloc2 _ _ _⟩
theorem rpid_at (n : Int) (w : World) :
    Calls Try.prog 38 #[.int .i64 n] w fun e w' => e = .returned (.bool (isP n)) ∧ w' = w := by
  by_cases h0 : 1 ≤ n
  · have g0 : decide (1 ≤ n) = true := decide_eq_true h0
    have HB : Hid (isP n = decide (n ≤ 8)) := by show _ = _; simp [isP, h0]
    go_enter Try.func38, Try.ntmps38
    go_wp2
    all_goals
      go_ret
      exact ⟨by rw [HB.out]; simp_all, rfl⟩
  · have g0 : decide (1 ≤ n) = false := decide_eq_false h0
    have HB : Hid (isP n = false) := by show _ = _; simp [isP, h0]
    go_enter Try.func38, Try.ntmps38
    go_wp2
    all_goals
      go_ret
      exact ⟨by rw [HB.out]; rfl, rfl⟩
end Go.Proofs.Ytkdbmfckfbmbiaa
