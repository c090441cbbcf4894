/- Code that can't be reached, put behind a program: in plain lists. -/
import Derived.Test.YteipppdkbpfkaaaDec6
namespace Go.Proofs.Yteipppdkbpfkaaa
set_option linter.unusedVariables false

theorem encs_app (a b : List Ins) : encs (a ++ b) = encs a ++ encs b := by simp [encs]
theorem place_app : ∀ (a b : List Ins) (k : Nat), place (a ++ b) k = place a k ++ place b (k + (encs a).length)
  | [], b, k => by simp [place, encs]
  | i :: a, b, k => by
    have e : encs (i :: a) = enc1 i ++ encs a := rfl
    rw [List.cons_append, place, place, place_app a b, e, List.length_append, enc1_len, List.cons_append]
    congr 3
    omega
theorem place_mem : ∀ (a : List Ins) (k : Nat) (y : Ins), y ∈ place a k → ∃ i ∈ a, y.op = i.op ∧ y.arg = i.arg ∧ (k : Int) ≤ y.pos
  | [], k, y, h => by simp [place] at h
  | i :: a, k, y, h => by
    rcases List.mem_cons.1 h with rfl | h
    · exact ⟨i, by simp, rfl, rfl, Int.le_refl _⟩
    · obtain ⟨j, h1, h2, h3, h4⟩ := place_mem a _ y h
      exact ⟨j, by simp [h1], h2, h3, by omega⟩
theorem mv_same {i y : Ins} (h1 : y.op = i.op) (h2 : y.arg = i.arg) : mv y = mv i := by unfold mv; rw [h1, h2]

/-- What is put behind: no jumps, and then a jump to the beginning. -/
structure Dead (P : List Ins) : Prop where
  good : ∀ i ∈ P, good i = true ∧ 0 ≤ i.arg
  takes : ∀ i ∈ P, 0 ≤ (mv i).1
  jumps : ∀ i ∈ P, (i.op = 21 ∨ i.op = 22) → i.arg = 0

theorem dead_dec {s : List UInt8} {l P : List Ins} (hp : Prog s l) (hd : Dead P) : decAt (s ++ encs P) 0 = some (l ++ place P s.length) := by
  obtain ⟨h1, h2⟩ := enc_dec s _ 0 (Nat.le_refl _) (by omega) l hp.dec
  simp only [List.drop_zero] at h2
  have hg : ∀ i ∈ l, good i = true ∧ 0 ≤ i.arg := fun i hi => ⟨h1 i hi, (hp.fine i hi).1.2.1.1⟩
  have e1 := dec_enc l [] hg
  simp only [List.nil_append, List.length_nil, h2, hp.dec, Option.some.injEq] at e1
  have e2 := dec_enc (l ++ P) [] (fun i hi => by
    rcases List.mem_append.1 hi with hi | hi
    · exact hg i hi
    · exact hd.good i hi)
  simp only [List.nil_append, List.length_nil, encs_app, place_app, h2, ← e1, Nat.zero_add] at e2
  exact e2
theorem find_app {l m : List Ins} {a : Int} (h : 0 ≤ findP l a) : findP (l ++ m) a = findP l a := by
  rcases findP_cases l a with ⟨h1, _⟩ | ⟨k, i, h1, h2, h3, h4⟩
  · omega
  · rw [h1]
    have hk := (List.getElem?_eq_some_iff.1 h2).1
    refine findP_hit (i := i) (by rw [List.getElem?_append_left hk]; exact h2) h3 (fun j x hj hx => ?_)
    rw [List.getElem?_append_left (by omega)] at hx
    exact h4 j x hj hx
theorem get_app {α : Type} {l m : List α} {k : Nat} {i : α} (h : l[k]? = some i) : (l ++ m)[k]? = some i := by
  rw [List.getElem?_append_left (List.getElem?_eq_some_iff.1 h).1]
  exact h
theorem reach_app {l m : List Ins} {k : Nat} {d : Int} (h : Reach l k d) : Reach (l ++ m) k d :=
  h (fun k d => Reach (l ++ m) k d) Reach.base (fun k d i ih hi hj => Reach.next ih (get_app hi) hj) (fun k d i j ih hi hj hf => Reach.jump ih (get_app hi) hj (by rw [find_app (by omega)]; exact hf))
theorem reach_back {l m : List Ins} {D : List Int} (hs : Sol l D) (hst : Stand l) {k : Nat} {d : Int} (h : Reach (l ++ m) k d) : Reach l k d := by
  refine h (fun k d => Reach l k d) Reach.base (fun k d i ih hi hj => ?_) (fun k d i j ih hi hj hf => ?_)
  · obtain ⟨i2, e1, _⟩ := (hs.all _ _ ih).2.2
    rw [get_app e1] at hi
    cases hi
    exact Reach.next ih e1 hj
  · obtain ⟨i2, e1, _⟩ := (hs.all _ _ ih).2.2
    rw [get_app e1] at hi
    cases hi
    refine Reach.jump ih e1 hj ?_
    rw [find_app ((hst _ (List.mem_of_getElem? e1)).1 hj)] at hf
    exact hf
theorem dead_valid {s : List UInt8} {l P : List Ins} {D : List Int} (hv : Valid s l D) (hd : Dead P) (hsz : (s ++ encs P).length ≤ 192) :
    Valid (s ++ encs P) (l ++ place P s.length) (D ++ List.replicate P.length (-1)) := by
  have hp := hv.prog
  have hlen := hv.lens
  refine ⟨⟨by have := hv.size; simp; omega, hsz⟩, dead_dec hp hd, fun i hi => ?_, ?_⟩
  · rcases List.mem_append.1 hi with hi | hi
    · have h := hv.stand i hi
      exact ⟨fun hj => by rw [find_app (h.1 hj)]; exact h.1 hj, h.2⟩
    · obtain ⟨y, hy, e1, e2, _⟩ := place_mem _ _ _ hi
      refine ⟨fun hj => ?_, by rw [mv_same e1 e2]; exact hd.takes y hy⟩
      have h0 : i.arg = 0 := by rw [e2]; exact hd.jumps y hy (by rw [← e1]; exact hj)
      have hz : l[0]? = some l[0] := List.getElem?_eq_getElem (by omega)
      have hf := hp.find hz
      rw [hp.first _ hz] at hf
      rw [h0, find_app (by omega)]
      omega
  · refine ⟨by simp [hv.sol.len, place_len], fun x hx => ?_, fun k d hr => ?_, fun k d hk hd0 => ?_⟩
    · rcases List.mem_append.1 hx with hx | hx
      · exact hv.sol.low x hx
      · rw [List.eq_of_mem_replicate hx]; decide
    · obtain ⟨h1, h2, i, e1, e2⟩ := hv.sol.all k d (reach_back hv.sol hv.stand hr)
      exact ⟨get_app h1, h2, i, get_app e1, e2⟩
    · by_cases hkl : k < D.length
      · rw [List.getElem?_append_left hkl] at hk
        exact reach_app (hv.sol.own k d hk hd0)
      · rw [List.getElem?_append_right (by omega)] at hk
        have := List.eq_of_mem_replicate (List.mem_of_getElem? hk)
        omega
/-- The last instruction is a jump, or can't be reached. -/
theorem last_jump {s : List UInt8} {l : List Ins} {D : List Int} (hv : Valid s l D) {k : Nat} {i : Ins} {x : Int} (hk : k + 1 = l.length) (hi : l[k]? = some i) (hx : D[k]? = some x) (h21 : i.op ≠ 21) : x < 0 := by
  by_cases h0 : 0 ≤ x
  · exact absurd hv.sol (Sol.no_end (hk ▸ Reach.next (hv.sol.own k x hx h0) hi h21) D)
  · omega

/-- The instructions that are put behind. -/
def plainB (i : Ins) : Bool := decide (0 ≤ (mv i).1) && decide (i.op ≠ 21) && decide (i.op ≠ 22)
theorem plainB_iff (i : Ins) : plainB i = true ↔ 0 ≤ (mv i).1 ∧ i.op ≠ 21 ∧ i.op ≠ 22 := by simp [plainB, and_assoc]
def jump0 : Ins := ⟨21, 0, 0, 0⟩
theorem dead_of {more : List Ins} (hf : ∀ i ∈ more, i.Fit) (hg : (more.filter plainB ++ [jump0]).all good = true) : Dead (more.filter plainB ++ [jump0]) := by
  have hj : ∀ i ∈ more.filter plainB ++ [jump0], i = jump0 ∨ (i ∈ more ∧ plainB i = true) := fun i hi => by
    rcases List.mem_append.1 hi with hi | hi
    · exact Or.inr (List.mem_filter.1 hi)
    · exact Or.inl (by simpa using hi)
  refine ⟨fun i hi => ⟨List.all_eq_true.1 hg i hi, ?_⟩, fun i hi => ?_, fun i hi hop => ?_⟩
  · rcases hj i hi with rfl | ⟨h, _⟩
    · decide
    · exact (hf i h).2.1.1
  · rcases hj i hi with rfl | ⟨_, h⟩
    · decide
    · exact ((plainB_iff i).1 h).1
  · rcases hj i hi with rfl | ⟨_, h⟩
    · rfl
    · have := (plainB_iff i).1 h
      omega
theorem filter_succ {l : List Ins} {k : Nat} {i : Ins} (hk : l[k]? = some i) : (l.take (k + 1)).filter plainB = (l.take k).filter plainB ++ (if plainB i then [i] else []) := by
  rw [take_snoc hk, List.filter_append]
  congr 1
  cases h : plainB i <;> simp [h]
theorem filter_short (l : List Ins) (k : Nat) : ((l.take k).filter plainB).length ≤ k := by
  have := List.length_filter_le plainB (l.take k)
  simp at this
  omega
end Go.Proofs.Yteipppdkbpfkaaa
