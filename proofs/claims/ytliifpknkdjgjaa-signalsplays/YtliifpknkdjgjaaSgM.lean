/- Signals as plain data: what each call answers and leaves, their words, and what any words say. -/
import Derived.Test.YtliifpknkdjgjaaPlain
import Derived.Laws.BitsAllLaws
namespace Go.Proofs.Ytliifpknkdjgjaa
open Go.RowKit
set_option linter.unusedVariables false

def dfl : Int := 18446744073709551615
def ign : Int := 18446744073709551614
/-- What is kept of one process: its handlers, what is pending (a word), the machine if it is in a handler. -/
structure Sg where
  h : List Int
  q : Nat
  k : Option (Int × List Int)
/-- What is kept as its machine. -/
def Sg.pc (p : Sg) : Int := (p.k.getD (0, [])).1
def Sg.st (p : Sg) : List Int := (p.k.getD (0, [])).2
def Sg.first : Sg := ⟨List.replicate 15 dfl, 0, none⟩
/-- Of each process, from 0 on. -/
abbrev SS := Nat → Sg
def SS.first : SS := fun _ => Sg.first
def SS.set (S : SS) (i : Nat) (p : Sg) : SS := fun k => if k = i then p else S k
theorem SS.set_same (S : SS) (i : Nat) (p : Sg) : S.set i p i = p := if_pos rfl
theorem SS.set_other (S : SS) (i k : Nat) (p : Sg) (h : k ≠ i) : S.set i p k = S k := if_neg h

def isP (n : Int) : Bool := decide (1 ≤ n) && decide (n ≤ 8)
def isS (n : Int) : Bool := decide (1 ≤ n) && decide (n ≤ 15)
theorem isP_nat {n : Int} (h : isP n = true) : ∃ i : Nat, n = (i : Int) + 1 ∧ i < 8 := by
  unfold isP at h
  simp only [Bool.and_eq_true, decide_eq_true_eq] at h
  exact ⟨(n - 1).toNat, by omega, by omega⟩
theorem isP_of {i : Nat} (h : i < 8) : isP ((i : Int) + 1) = true := by
  unfold isP
  rw [decide_eq_true (by omega), decide_eq_true (by omega)]
  rfl
theorem isP_no {n : Int} (h : isP n = false) : n < 1 ∨ 8 < n := by
  unfold isP at h
  rcases Int.lt_or_le n 1 with q | q
  · exact Or.inl q
  · rcases Int.lt_or_le 8 n with q2 | q2
    · exact Or.inr q2
    · rw [decide_eq_true q, decide_eq_true q2] at h
      cases h
theorem isS_nat {n : Int} (h : isS n = true) : ∃ i : Nat, n = (i : Int) + 1 ∧ i < 15 := by
  unfold isS at h
  simp only [Bool.and_eq_true, decide_eq_true_eq] at h
  exact ⟨(n - 1).toNat, by omega, by omega⟩
theorem isS_of {i : Nat} (h : i < 15) : isS ((i : Int) + 1) = true := by
  unfold isS
  rw [decide_eq_true (by omega), decide_eq_true (by omega)]
  rfl
theorem isS_no {n : Int} (h : isS n = false) : n < 1 ∨ 15 < n := by
  unfold isS at h
  rcases Int.lt_or_le n 1 with q | q
  · exact Or.inl q
  · rcases Int.lt_or_le 15 n with q2 | q2
    · exact Or.inr q2
    · rw [decide_eq_true q, decide_eq_true q2] at h
      cases h

/-- The word without bit i. -/
def clr (q i : Nat) : Nat := q &&& (18446744073709551615 - 2 ^ i)
theorem max_bit (j : Nat) : (18446744073709551615 : Nat).testBit j = decide (j < 64) := Nat.testBit_two_pow_sub_one 64 j
theorem bit_lt {i : Nat} (h : i < 64) : 2 ^ i < 18446744073709551616 :=
  Nat.lt_of_lt_of_le (Nat.pow_lt_pow_right (by omega) h) (by decide)
theorem not_bit {i : Nat} (hi : i < 64) (j : Nat) : (18446744073709551615 - 2 ^ i).testBit j = (decide (j < 64) && !decide (i = j)) := by
  have h := Nat.testBit_two_pow_sub_succ (n := 64) (bit_lt hi) j
  rw [Nat.testBit_two_pow] at h
  rw [← h]
  congr 1
  omega
theorem low_bit {q j : Nat} (hq : q < 65536) (h : 16 ≤ j) : q.testBit j = false :=
  Nat.testBit_lt_two_pow (Nat.lt_of_lt_of_le hq (by have := Nat.pow_le_pow_right (n := 2) (by omega) h; simpa using this))
theorem clr_bit {q i : Nat} (hq : q < 65536) (hi : i < 64) (j : Nat) : (clr q i).testBit j = if j = i then false else q.testBit j := by
  unfold clr
  rw [Nat.testBit_and, not_bit hi]
  by_cases e : j = i
  · rw [if_pos e, decide_eq_true e.symm]
    simp
  · rw [if_neg e, decide_eq_false (fun (x : i = j) => e x.symm)]
    by_cases h : j < 64
    · rw [decide_eq_true h]
      simp
    · rw [low_bit hq (by omega)]
      rfl
theorem clr_lt {q i : Nat} (hq : q < 65536) : clr q i < 65536 := Nat.lt_of_le_of_lt Nat.and_le_left hq
theorem clr_less {q i : Nat} (hq : q < 65536) (hi : i < 64) (hb : q.testBit i = true) : clr q i < q := by
  refine Nat.lt_of_le_of_ne Nat.and_le_left fun e => ?_
  have h := clr_bit hq hi i
  rw [if_pos rfl, show clr q i = q from e, hb] at h
  cases h
def addB (q i : Nat) : Nat := q ||| 2 ^ i
theorem addB_bit (q i j : Nat) : (addB q i).testBit j = (q.testBit j || decide (i = j)) := by
  unfold addB
  rw [Nat.testBit_or, Nat.testBit_two_pow]
theorem addB_lt {q i : Nat} (hq : q < 65536) (hi : i < 16) : addB q i < 65536 := by
  have h : 2 ^ i < 65536 := Nat.lt_of_lt_of_le (Nat.pow_lt_pow_right (by omega) hi) (by decide)
  exact Nat.or_lt_two_pow (n := 16) hq h
/-- A word of signals. -/
def QOk (q : Nat) : Prop := q < 65536 ∧ q.testBit 0 = false
theorem QOk.zero : QOk 0 := ⟨by omega, by simp⟩
theorem QOk.clr {q i : Nat} (h : QOk q) (hi : i < 64) : QOk (clr q i) := ⟨clr_lt h.1, by
  rw [clr_bit h.1 hi]
  split
  · rfl
  · exact h.2⟩
theorem QOk.add {q i : Nat} (h : QOk q) (h1 : 1 ≤ i) (hi : i < 16) : QOk (addB q i) := ⟨addB_lt h.1 hi, by
  rw [addB_bit, h.2, decide_eq_false (by omega)]
  rfl⟩
theorem QOk.ext {q r : Nat} (h : QOk q) (h2 : QOk r) (hb : ∀ j, 1 ≤ j → j < 16 → q.testBit j = r.testBit j) : q = r := by
  apply Nat.eq_of_testBit_eq
  intro j
  by_cases h0 : j = 0
  · rw [h0, h.2, h2.2]
  · by_cases h16 : j < 16
    · exact hb j (by omega) h16
    · rw [low_bit h.1 (by omega), low_bit h2.1 (by omega)]

/-- From signal i on, k of them: the first that is pending and not to be ignored (0: none), and what is pending then. -/
def nxF (h : List Int) : Nat → Nat → Nat → Nat × Nat
  | 0, _, q => (0, q)
  | k + 1, i, q => if q.testBit i then (if h.getD (i - 1) 0 = ign then nxF h k (i + 1) (clr q i) else (i, clr q i)) else nxF h k (i + 1) q
/-- Next of one. -/
def Sg.nx (p : Sg) : Nat × Nat := if p.q.testBit 9 then (9, clr p.q 9) else if p.k.isSome then (0, p.q) else nxF p.h 15 1 p.q
def Sg.q' (p : Sg) (q : Nat) : Sg := ⟨p.h, q, p.k⟩
def Sg.hd (p : Sg) (n : Nat) : Int := p.h.getD (n - 1) 0

/-- Set. -/
def seE (pid sig : Int) : Int := if isP pid then (if isS sig && sig != 9 then 0 else 22) else 3
def seS (S : SS) (pid sig x : Int) : SS := if isP pid && (isS sig && sig != 9) then S.set (pid - 1).toNat ⟨(S (pid - 1).toNat).h.set (sig - 1).toNat x, (S (pid - 1).toNat).q, (S (pid - 1).toNat).k⟩ else S
/-- Send. -/
def sdE (pid sig : Int) : Int := if isP pid then (if isS sig then 0 else 22) else 3
def sdS (S : SS) (pid sig : Int) : SS := if isP pid && isS sig then S.set (pid - 1).toNat ((S (pid - 1).toNat).q' (addB (S (pid - 1).toNat).q sig.toNat)) else S
/-- Next: the signal, the handler, whether there is one, what is there then. -/
def nxI (S : SS) (pid : Int) : Nat := if isP pid then (S (pid - 1).toNat).nx.1 else 0
def nxH (S : SS) (pid : Int) : Int := if nxI S pid = 0 then 0 else (S (pid - 1).toNat).hd (nxI S pid)
def nxB (S : SS) (pid : Int) : Bool := nxI S pid != 0
def nxS (S : SS) (pid : Int) : SS := if isP pid then S.set (pid - 1).toNat ((S (pid - 1).toNat).q' (S (pid - 1).toNat).nx.2) else S
/-- Enter. -/
def enE (S : SS) (pid : Int) : Int := if isP pid then (if (S (pid - 1).toNat).k.isSome then 22 else 0) else 3
def enS (S : SS) (pid pc : Int) (st : List Int) : SS := if isP pid && !(S (pid - 1).toNat).k.isSome then S.set (pid - 1).toNat ⟨(S (pid - 1).toNat).h, (S (pid - 1).toNat).q, some (pc, st)⟩ else S
/-- Leave. -/
def leE (S : SS) (pid : Int) : Int := if isP pid then (if (S (pid - 1).toNat).k.isSome then 0 else 22) else 3
def lePc (S : SS) (pid : Int) : Int := if isP pid then (S (pid - 1).toNat).pc else 0
def leSt (S : SS) (pid : Int) : List Int := if isP pid then (S (pid - 1).toNat).st else []
def leS (S : SS) (pid : Int) : SS := if isP pid then S.set (pid - 1).toNat ⟨(S (pid - 1).toNat).h, (S (pid - 1).toNat).q, none⟩ else S
/-- Fork. -/
def fkS (S : SS) (pid child : Int) : SS := if (isP pid && isP child) && pid != child then S.set (child - 1).toNat ⟨(S (pid - 1).toNat).h, 0, (S (pid - 1).toNat).k⟩ else S
/-- Clear. -/
def clH (h : List Int) : List Int := h.map (fun x => if x = ign then x else dfl)
def clS (S : SS) (pid : Int) : SS := if isP pid then S.set (pid - 1).toNat ⟨clH (S (pid - 1).toNat).h, (S (pid - 1).toNat).q, none⟩ else S
/-- Gone. -/
def goS (S : SS) (pid : Int) : SS := if isP pid then S.set (pid - 1).toNat Sg.first else S

/-- What holds of each process's state. -/
structure Sg.Ok (p : Sg) : Prop where
  len : p.h.length = 15
  nine : p.h[8]? = some dfl
  u64 : ∀ x ∈ p.h, 0 ≤ x ∧ x < 18446744073709551616
  pend : QOk p.q
  vm : ∀ pc st, p.k = some (pc, st) → 0 ≤ pc ∧ pc ≤ 1048576 ∧ st.length ≤ 32 ∧ ∀ x ∈ st, 0 ≤ x ∧ x < 18446744073709551616
def SOk (S : SS) : Prop := ∀ i, i < 8 → (S i).Ok
theorem first_ok : Sg.first.Ok := ⟨rfl, rfl, fun x hx => by
    have : x = dfl := List.eq_of_mem_replicate hx
    rw [this]; unfold dfl; omega, QOk.zero, fun pc st h => by cases h⟩
theorem ok_first : SOk SS.first := fun i _ => first_ok
theorem SOk.set {S : SS} (h : SOk S) {i : Nat} {p : Sg} (hp : p.Ok) : SOk (S.set i p) := by
  intro k hk
  by_cases e : k = i
  · rw [e, SS.set_same]; exact hp
  · rw [SS.set_other _ _ _ _ e]; exact h k hk
theorem nxF_ok (h : List Int) : ∀ k i q, QOk q → i + k ≤ 16 → QOk (nxF h k i q).2 ∧ ((nxF h k i q).1 = 0 ∨ (i ≤ (nxF h k i q).1 ∧ (nxF h k i q).1 < i + k))
  | 0, i, q, hq, _ => ⟨hq, Or.inl rfl⟩
  | k + 1, i, q, hq, hi => by
    have hc := hq.clr (i := i) (by omega)
    have h1 := nxF_ok h k (i + 1) (clr q i) hc (by omega)
    have h2 := nxF_ok h k (i + 1) q hq (by omega)
    unfold nxF
    split
    · split
      · exact ⟨h1.1, by rcases h1.2 with e | e <;> omega⟩
      · exact ⟨hc, Or.inr ⟨Nat.le_refl _, by show i < i + (k + 1); omega⟩⟩
    · exact ⟨h2.1, by rcases h2.2 with e | e <;> omega⟩
theorem nx_ok {p : Sg} (h : p.Ok) : QOk p.nx.2 ∧ p.nx.1 ≤ 15 := by
  unfold Sg.nx
  split
  · exact ⟨h.pend.clr (by omega), by show 9 ≤ 15; omega⟩
  · split
    · exact ⟨h.pend, by show 0 ≤ 15; omega⟩
    · have := nxF_ok p.h 15 1 p.q h.pend (by omega)
      exact ⟨this.1, by omega⟩
theorem ok_se {S : SS} (h : SOk S) (pid sig x : Int) (hx : 0 ≤ x ∧ x < 18446744073709551616) : SOk (seS S pid sig x) := by
  unfold seS
  split
  · rename_i hc
    simp only [Bool.and_eq_true, bne_iff_ne, ne_eq] at hc
    obtain ⟨hp, hs, h9⟩ := hc
    obtain ⟨i, rfl, hi⟩ := isP_nat hp
    obtain ⟨k, rfl, hk⟩ := isS_nat hs
    rw [show ((i : Int) + 1 - 1).toNat = i by omega, show ((k : Int) + 1 - 1).toNat = k by omega]
    have hq := h i hi
    refine h.set ⟨by rw [List.length_set]; exact hq.len, by rw [List.getElem?_set_ne (by omega)]; exact hq.nine, fun y hy => ?_, hq.pend, hq.vm⟩
    rcases List.mem_or_eq_of_mem_set hy with hy | hy
    · exact hq.u64 y hy
    · rw [hy]; exact hx
  · exact h
theorem ok_sd {S : SS} (h : SOk S) (pid sig : Int) : SOk (sdS S pid sig) := by
  unfold sdS
  split
  · rename_i hc
    simp only [Bool.and_eq_true] at hc
    obtain ⟨hp, hs⟩ := hc
    obtain ⟨i, rfl, hi⟩ := isP_nat hp
    obtain ⟨k, rfl, hk⟩ := isS_nat hs
    rw [show ((i : Int) + 1 - 1).toNat = i by omega, show ((k : Int) + 1).toNat = k + 1 by omega]
    have hq := h i hi
    exact h.set ⟨hq.len, hq.nine, hq.u64, hq.pend.add (by omega) (by omega), hq.vm⟩
  · exact h
theorem ok_nx {S : SS} (h : SOk S) (pid : Int) : SOk (nxS S pid) := by
  unfold nxS
  split
  · rename_i hp
    obtain ⟨i, rfl, hi⟩ := isP_nat hp
    rw [show ((i : Int) + 1 - 1).toNat = i by omega]
    have hq := h i hi
    exact h.set ⟨hq.len, hq.nine, hq.u64, (nx_ok hq).1, hq.vm⟩
  · exact h
theorem ok_en {S : SS} (h : SOk S) (pid pc : Int) (st : List Int) (h1 : 0 ≤ pc) (h2 : pc ≤ 1048576) (h3 : st.length ≤ 32) (h4 : ∀ x ∈ st, 0 ≤ x ∧ x < 18446744073709551616) : SOk (enS S pid pc st) := by
  unfold enS
  split
  · rename_i hc
    simp only [Bool.and_eq_true] at hc
    obtain ⟨i, rfl, hi⟩ := isP_nat hc.1
    rw [show ((i : Int) + 1 - 1).toNat = i by omega]
    have hq := h i hi
    exact h.set ⟨hq.len, hq.nine, hq.u64, hq.pend, fun pc' st' e => by cases e; exact ⟨h1, h2, h3, h4⟩⟩
  · exact h
theorem ok_le {S : SS} (h : SOk S) (pid : Int) : SOk (leS S pid) := by
  unfold leS
  split
  · rename_i hp
    obtain ⟨i, rfl, hi⟩ := isP_nat hp
    rw [show ((i : Int) + 1 - 1).toNat = i by omega]
    have hq := h i hi
    exact h.set ⟨hq.len, hq.nine, hq.u64, hq.pend, fun pc' st' e => by cases e⟩
  · exact h
theorem ok_fk {S : SS} (h : SOk S) (pid child : Int) : SOk (fkS S pid child) := by
  unfold fkS
  split
  · rename_i hc
    simp only [Bool.and_eq_true] at hc
    obtain ⟨i, rfl, hi⟩ := isP_nat hc.1.1
    rw [show ((i : Int) + 1 - 1).toNat = i by omega]
    have hq := h i hi
    exact h.set ⟨hq.len, hq.nine, hq.u64, QOk.zero, hq.vm⟩
  · exact h
theorem clH_ok {p : Sg} (h : p.Ok) : (⟨clH p.h, p.q, none⟩ : Sg).Ok := by
  refine ⟨by simp [clH, h.len], ?_, fun x hx => ?_, h.pend, fun pc st e => by cases e⟩
  · show (clH p.h)[8]? = _
    unfold clH
    rw [List.getElem?_map, h.nine]
    rfl
  · unfold clH at hx
    rw [List.mem_map] at hx
    obtain ⟨y, hy, rfl⟩ := hx
    split
    · exact h.u64 y hy
    · unfold dfl; omega
theorem ok_cl {S : SS} (h : SOk S) (pid : Int) : SOk (clS S pid) := by
  unfold clS
  split
  · rename_i hp
    obtain ⟨i, rfl, hi⟩ := isP_nat hp
    rw [show ((i : Int) + 1 - 1).toNat = i by omega]
    exact h.set (clH_ok (h i hi))
  · exact h
theorem ok_go {S : SS} (h : SOk S) (pid : Int) : SOk (goS S pid) := by
  unfold goS
  split
  · exact h.set first_ok
  · exact h

/-- The words of one. -/
def encV : Option (Int × List Int) → List Int
  | none => [0]
  | some (pc, st) => 1 :: pc :: (st.length : Int) :: st
def encP (p : Sg) : List Int := p.h ++ (p.q : Int) :: encV p.k
def encK (S : SS) : Nat → List Int
  | 0 => []
  | k + 1 => encK S k ++ encP (S k)
def encS (S : SS) : List Int := encK S 8
theorem encV_len {p : Sg} (h : p.Ok) : (encV p.k).length ≤ 35 := by
  cases hk : p.k with
  | none => simp [encV]
  | some z =>
    obtain ⟨pc, st⟩ := z
    have := (h.vm pc st hk).2.2.1
    simp [encV]
    omega
theorem encP_len {p : Sg} (h : p.Ok) : (encP p).length ≤ 51 := by
  have h1 := encV_len h
  have h2 := h.len
  simp only [encP, List.length_append, List.length_cons]
  omega
theorem encK_len {S : SS} (h : SOk S) : ∀ k, k ≤ 8 → (encK S k).length ≤ 51 * k
  | 0, _ => by simp [encK]
  | k + 1, hk => by
    have h1 := encK_len h k (by omega)
    have h2 := encP_len (h k (by omega))
    simp only [encK, List.length_append]
    omega
theorem encS_len {S : SS} (h : SOk S) : (encS S).length ≤ 408 := encK_len h 8 (Nat.le_refl _)
theorem encK_ext {S T : SS} : ∀ k, (∀ i, i < k → S i = T i) → encK S k = encK T k
  | 0, _ => rfl
  | k + 1, h => by
    simp only [encK]
    rw [encK_ext k (fun i hi => h i (by omega)), h k (by omega)]

/-- What the first words say of a machine. -/
def rdV : List Int → Option (Int × List Int)
  | pc :: n :: t => if 1048576 < pc ∨ 32 < n ∨ (t.length : Int) < n then none else some (pc, t.take n.toNat)
  | _ => none
/-- Words of signals: no other bits. -/
def okQ (x : Int) : Bool := decide (x < 65536) && decide (x % 2 = 0)
/-- What the first words say of a process: how many they are, and what. -/
def rd1 (w : List Int) : Option (Nat × Sg) :=
  if w.length < 17 then none
  else if w.getD 8 0 ≠ dfl ∨ okQ (w.getD 15 0) = false ∨ 1 < w.getD 16 0 then none
  else if w.getD 16 0 = 0 then some (17, ⟨w.take 15, (w.getD 15 0).toNat, none⟩)
  else (rdV (w.drop 17)).map (fun z => (19 + z.2.length, ⟨w.take 15, (w.getD 15 0).toNat, some z⟩))
def rdK (S : SS) : Nat → List Int → Nat → Option SS
  | 0, w, i => if w = [] then some S else none
  | k + 1, w, i => match rd1 w with
    | none => none
    | some (n, p) => rdK (S.set i p) k (w.drop n) (i + 1)
def decS (w : List Int) : Option SS := rdK SS.first 8 w 0
theorem okQ_of {q : Nat} (h : QOk q) : okQ (q : Int) = true := by
  unfold okQ
  have h1 := h.2
  rw [Nat.testBit_zero] at h1
  rw [decide_eq_true (by have := h.1; omega), decide_eq_true (by simp at h1; omega)]
  rfl
theorem okQ_nat {x : Int} (h0 : 0 ≤ x) (h : okQ x = true) : QOk x.toNat := by
  unfold okQ at h
  simp only [Bool.and_eq_true, decide_eq_true_eq] at h
  refine ⟨by omega, ?_⟩
  rw [Nat.testBit_zero]
  simp
  omega
theorem rdV_enc (pc : Int) (st r : List Int) (h2 : pc ≤ 1048576) (h3 : st.length ≤ 32) : rdV (pc :: (st.length : Int) :: (st ++ r)) = some (pc, st) := by
  rw [rdV, if_neg (by rw [List.length_append]; omega), Int.toNat_natCast, List.take_left' rfl]
theorem rd1_enc {p : Sg} (h : p.Ok) (r : List Int) : rd1 (encP p ++ r) = some ((encP p).length, p) := by
  have hl := h.len
  have e8 : (encP p ++ r).getD 8 0 = dfl := by
    rw [List.getD_eq_getElem?_getD]
    unfold encP
    rw [List.append_assoc, List.getElem?_append_left (by omega), h.nine]
    rfl
  have e15 : (encP p ++ r).getD 15 0 = (p.q : Int) := by
    rw [List.getD_eq_getElem?_getD]
    unfold encP
    rw [List.append_assoc, List.getElem?_append_right (by omega), hl]
    rfl
  have e16 : (encP p ++ r).getD 16 0 = (encV p.k ++ r).getD 0 0 := by
    rw [List.getD_eq_getElem?_getD, List.getD_eq_getElem?_getD]
    unfold encP
    rw [List.append_assoc, List.getElem?_append_right (by omega), hl]
    rfl
  have et : (encP p ++ r).take 15 = p.h := by
    unfold encP
    rw [List.append_assoc, List.take_left' hl]
  have ed : (encP p ++ r).drop 17 = (encV p.k ++ r).drop 1 := by
    unfold encP
    rw [List.append_assoc, List.drop_append, hl, List.drop_eq_nil_of_le (by omega)]
    rfl
  have hel : 17 ≤ (encP p ++ r).length := by
    rw [List.length_append]
    unfold encP
    rw [List.length_append, hl, List.length_cons]
    cases p.k with
    | none => simp only [encV, List.length_cons, List.length_nil]; omega
    | some z => obtain ⟨pc, st⟩ := z; simp only [encV, List.length_cons]; omega
  unfold rd1
  rw [if_neg (by omega), e8, e15, e16, et, ed, okQ_of h.pend, Int.toNat_natCast]
  have hlen : (encP p).length = 16 + (encV p.k).length := by
    unfold encP
    rw [List.length_append, hl, List.length_cons]
    omega
  obtain ⟨ph, pq, pk⟩ := p
  cases pk with
  | none =>
    rw [if_neg (by simp [encV]), if_pos (by rfl), hlen]
    rfl
  | some z =>
    obtain ⟨pc, st⟩ := z
    have hv := h.vm pc st rfl
    rw [if_neg (by simp [encV]), if_neg (by simp [encV]), hlen]
    show (rdV (pc :: (st.length : Int) :: (st ++ r))).map _ = _
    rw [rdV_enc pc st r hv.2.1 hv.2.2.1]
    simp [encV]
    omega
theorem rdV_back {w : List Int} {z : Int × List Int} (hp : ∀ x ∈ w, 0 ≤ x ∧ x < 18446744073709551616) (h : rdV w = some z) : w.take (2 + z.2.length) = z.1 :: (z.2.length : Int) :: z.2 ∧ 2 + z.2.length ≤ w.length ∧ 0 ≤ z.1 ∧ z.1 ≤ 1048576 ∧ z.2.length ≤ 32 ∧ ∀ x ∈ z.2, 0 ≤ x ∧ x < 18446744073709551616 := by
  match w, h with
  | pc :: n :: t, h =>
    rw [rdV] at h
    by_cases h2 : 1048576 < pc ∨ 32 < n ∨ (t.length : Int) < n
    · rw [if_pos h2] at h; cases h
    · rw [if_neg h2] at h
      cases h
      have hn := (hp n (by simp)).1
      have hpc := (hp pc (by simp)).1
      have hl : (t.take n.toNat).length = n.toNat := by rw [List.length_take]; omega
      dsimp only
      rw [hl]
      refine ⟨?_, by simp; omega, hpc, by omega, by omega, fun x hx => hp x (by simp [List.mem_of_mem_take hx])⟩
      rw [show 2 + n.toNat = (n.toNat + 1) + 1 by omega, List.take_succ_cons, List.take_succ_cons, show ((n.toNat : Nat) : Int) = n by omega]
theorem getD_of {w : List Int} {i : Nat} (h : i < w.length) : w[i]? = some (w.getD i 0) := by
  rw [List.getD_eq_getElem?_getD, List.getElem?_eq_getElem h]
  rfl
theorem rd1_back {w : List Int} {n : Nat} {p : Sg} (hp : ∀ x ∈ w, 0 ≤ x ∧ x < 18446744073709551616) (h : rd1 w = some (n, p)) : w.take n = encP p ∧ n ≤ w.length ∧ 1 ≤ n ∧ p.Ok := by
  unfold rd1 at h
  by_cases h1 : w.length < 17
  · rw [if_pos h1] at h; cases h
  · rw [if_neg h1] at h
    by_cases h2 : w.getD 8 0 ≠ dfl ∨ okQ (w.getD 15 0) = false ∨ 1 < w.getD 16 0
    · rw [if_pos h2] at h; cases h
    · rw [if_neg h2] at h
      have h8 : w.getD 8 0 = dfl := by
        rcases Classical.em (w.getD 8 0 = dfl) with e | e
        · exact e
        · exact absurd (Or.inl e) h2
      have hq : okQ (w.getD 15 0) = true := by
        cases e : okQ (w.getD 15 0) with
        | true => rfl
        | false => exact absurd (Or.inr (Or.inl e)) h2
      have hm : w.getD 16 0 ≤ 1 := by
        rcases Int.lt_or_le 1 (w.getD 16 0) with e | e
        · exact absurd (Or.inr (Or.inr e)) h2
        · exact e
      have g8 := getD_of (w := w) (i := 8) (by omega)
      have g15 := getD_of (w := w) (i := 15) (by omega)
      have g16 := getD_of (w := w) (i := 16) (by omega)
      have p15 := (hp _ (List.mem_of_getElem? g15)).1
      have p16 := (hp _ (List.mem_of_getElem? g16)).1
      have hqk := okQ_nat p15 hq
      have hw17 : w.take 17 = w.take 15 ++ [w.getD 15 0, w.getD 16 0] := by
        rw [List.take_add_one, List.take_add_one, g15, g16]
        simp
      have hlen : (w.take 15).length = 15 := by rw [List.length_take]; omega
      have hni : (w.take 15)[8]? = some dfl := by rw [List.getElem?_take_of_lt (by omega), g8, h8]
      have hu : ∀ x ∈ w.take 15, 0 ≤ x ∧ x < 18446744073709551616 := fun x hx => hp x (List.mem_of_mem_take hx)
      have hqc : (((w.getD 15 0).toNat : Nat) : Int) = w.getD 15 0 := by omega
      by_cases h0 : w.getD 16 0 = 0
      · rw [if_pos h0] at h
        cases h
        refine ⟨?_, by omega, by omega, ⟨hlen, hni, hu, hqk, fun pc st e => by cases e⟩⟩
        rw [hw17, h0]
        show _ = w.take 15 ++ (((w.getD 15 0).toNat : Nat) : Int) :: [0]
        rw [hqc]
      · rw [if_neg h0] at h
        have hm1 : w.getD 16 0 = 1 := by omega
        cases hv : rdV (w.drop 17) with
        | none => rw [hv] at h; cases h
        | some z =>
          rw [hv] at h
          cases h
          obtain ⟨e1, e2, e3, e4, e5, e6⟩ := rdV_back (fun x hx => hp x (List.mem_of_mem_drop hx)) hv
          rw [List.length_drop] at e2
          refine ⟨?_, by omega, by omega, ⟨hlen, hni, hu, hqk, fun pc st e => by cases e; exact ⟨e3, e4, e5, e6⟩⟩⟩
          rw [show 19 + z.2.length = 17 + (2 + z.2.length) by omega, List.take_add, hw17, e1, hm1]
          show _ = w.take 15 ++ (((w.getD 15 0).toNat : Nat) : Int) :: (1 :: z.1 :: (z.2.length : Int) :: z.2)
          rw [hqc]
          simp
theorem rdK_none {S : SS} {k i : Nat} {w : List Int} (h : rd1 w = none) : rdK S (k + 1) w i = none := by
  rw [rdK, h]
theorem rdK_some {S : SS} {k i m : Nat} {w : List Int} {p : Sg} (h : rd1 w = some (m, p)) : rdK S (k + 1) w i = rdK (S.set i p) k (w.drop m) (i + 1) := by
  rw [rdK, h]
theorem rdK_enc {S T : SS} (hF : SOk S) : ∀ k i, i + k = 8 → ∀ E r, E ++ r = encS S → E = encK S i → (∀ j, j < i → T j = S j) → (∀ j, 8 ≤ j → T j = S j) → rdK T k r i = some S
  | 0, i, hi, E, r, h1, h2, h3, h4 => by
    have : r = [] := by
      obtain rfl : i = 8 := by omega
      rw [h2] at h1
      exact List.append_cancel_left (h1.trans (List.append_nil _).symm)
    subst this
    have hTS : T = S := by
      funext j
      by_cases hj : j < 8
      · exact h3 j (by omega)
      · exact h4 j (by omega)
    rw [rdK, if_pos rfl, hTS]
  | k + 1, i, hi, E, r, h1, h2, h3, h4 => by
    obtain ⟨r2, hr⟩ : ∃ r2, r = encP (S i) ++ r2 := by
      have h5 : ∀ m, i + 1 ≤ m → ∃ z, encK S m = encK S (i + 1) ++ z := by
        intro m hm
        induction m with
        | zero => omega
        | succ m ih =>
          by_cases e : i + 1 = m + 1
          · rw [e]; exact ⟨[], by simp⟩
          · obtain ⟨z, hz⟩ := ih (by omega)
            exact ⟨z ++ encP (S m), by simp only [encK, hz]; simp⟩
      obtain ⟨z, hz⟩ := h5 8 (by omega)
      refine ⟨z, ?_⟩
      have : E ++ r = E ++ (encP (S i) ++ z) := by
        rw [h1, h2]
        show encK S 8 = _
        rw [hz]
        simp [encK]
      exact List.append_cancel_left this
    subst hr
    rw [rdK, rd1_enc (hF i (by omega)) r2]
    dsimp only
    rw [List.drop_left' rfl]
    refine rdK_enc hF k (i + 1) (by omega) (E ++ encP (S i)) r2 (by rw [List.append_assoc]; exact h1) (by rw [h2]; rfl) (fun j hj => ?_) (fun j hj => ?_)
    · by_cases e : j = i
      · rw [e, SS.set_same]
      · rw [SS.set_other _ _ _ _ e]
        exact h3 j (by omega)
    · rw [SS.set_other _ _ _ _ (by omega)]
      exact h4 j hj
/-- What is written is read again. -/
theorem dec_enc {S : SS} (hF : SOk S) (h0 : ∀ j, 8 ≤ j → S j = Sg.first) : decS (encS S) = some S :=
  rdK_enc hF 8 0 rfl [] _ rfl rfl (fun j hj => by omega) (fun j hj => (h0 j hj).symm)
theorem rdK_back {S : SS} : ∀ k i w, i + k = 8 → ∀ T, (∀ x ∈ w, 0 ≤ x ∧ x < 18446744073709551616) → SOk T → (∀ j, i ≤ j → T j = Sg.first) → rdK T k w i = some S → encS S = encK T i ++ w ∧ SOk S ∧ (∀ j, 8 ≤ j → S j = Sg.first) ∧ (∀ j, j < i → S j = T j)
  | 0, i, w, hi, T, hp, hF, h0, h => by
    by_cases e : w = []
    · rw [rdK, if_pos e] at h
      cases h
      subst e
      obtain rfl : i = 8 := by omega
      exact ⟨by rw [List.append_nil]; rfl, hF, fun j hj => h0 j hj, fun j _ => rfl⟩
    · rw [rdK, if_neg e] at h; cases h
  | k + 1, i, w, hi, T, hp, hF, h0, h => by
    rw [rdK] at h
    cases h1 : rd1 w with
    | none => rw [h1] at h; cases h
    | some z =>
      obtain ⟨n, o⟩ := z
      rw [h1] at h
      dsimp only at h
      obtain ⟨e1, e2, e3, e4⟩ := rd1_back hp h1
      obtain ⟨f1, f2, f3, f4⟩ := rdK_back k (i + 1) (w.drop n) (by omega) (T.set i o) (fun x hx => hp x (List.mem_of_mem_drop hx)) (hF.set e4) (fun j hj => by rw [SS.set_other _ _ _ _ (by omega)]; exact h0 j (by omega)) h
      refine ⟨?_, f2, f3, fun j hj => ?_⟩
      · rw [f1]
        simp only [encK]
        rw [SS.set_same, encK_ext (S := T.set i o) (T := T) i (fun j hj => SS.set_other _ _ _ _ (by omega)), ← e1, List.append_assoc, List.take_append_drop]
      · rw [f4 j (by omega)]
        exact SS.set_other _ _ _ _ (by omega)
/-- What is read is written again. -/
theorem dec_back {w : List Int} {S : SS} (hp : ∀ x ∈ w, 0 ≤ x ∧ x < 18446744073709551616) (h : decS w = some S) : encS S = w ∧ SOk S ∧ ∀ j, 8 ≤ j → S j = Sg.first := by
  obtain ⟨h1, h2, h3, _⟩ := rdK_back 8 0 w rfl SS.first hp ok_first (fun j _ => rfl) h
  exact ⟨h1, h2, h3⟩
end Go.Proofs.Ytliifpknkdjgjaa
