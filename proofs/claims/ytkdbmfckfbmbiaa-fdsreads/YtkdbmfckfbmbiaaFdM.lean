/- Open files and descriptors as plain data; what each call answers and leaves. -/
import Derived.WalkKit
namespace Go.Proofs.Ytkdbmfckfbmbiaa
open Go.RowKit
set_option linter.unusedVariables false

/-- An open file. -/
structure Fl where
  kind : Int
  id : Int
  off : Int
  app : Bool
  refs : Int
def Fl.no : Fl := ⟨0, 0, 0, false, 0⟩
/-- Its five cells. -/
def Fl.get (x : Fl) : Nat → Value
  | 0 => .int .i64 x.kind
  | 1 => .int .i64 x.id
  | 2 => .int .i64 x.off
  | 3 => .bool x.app
  | _ => .int .i64 x.refs
abbrev Fl.row (x : Fl) : Array Value := #[.int .i64 x.kind, .int .i64 x.id, .int .i64 x.off, .bool x.app, .int .i64 x.refs]
/-- With another count. -/
def Fl.re (x : Fl) (n : Int) : Fl := ⟨x.kind, x.id, x.off, x.app, n⟩
def Fl.at (x : Fl) (n : Int) : Fl := ⟨x.kind, x.id, n, x.app, x.refs⟩

/-- The files by their places (0 to 31), what each descriptor names (0 to 47; 0: nothing, else a place and 1). -/
structure FS where
  f : Nat → Fl
  t : Nat → Nat
def FS.zero : FS := ⟨fun _ => Fl.no, fun _ => 0⟩
def FS.setF (S : FS) (p : Nat) (x : Fl) : FS := ⟨fun i => if i = p then x else S.f i, S.t⟩
def FS.setT (S : FS) (k q : Nat) : FS := ⟨S.f, fun i => if i = k then q else S.t i⟩
/-- A count grows by so many. -/
def FS.addR (S : FS) (p : Nat) (d : Int) : FS := S.setF p ((S.f p).re ((S.f p).refs + d))
theorem FS.setF_same (S : FS) (p : Nat) (x : Fl) : (S.setF p x).f p = x := by simp [FS.setF]
theorem FS.setF_other (S : FS) (p i : Nat) (x : Fl) (h : i ≠ p) : (S.setF p x).f i = S.f i := by simp [FS.setF, h]
theorem FS.setF_t (S : FS) (p : Nat) (x : Fl) : (S.setF p x).t = S.t := rfl
theorem FS.setT_same (S : FS) (k q : Nat) : (S.setT k q).t k = q := by simp [FS.setT]
theorem FS.setT_other (S : FS) (k i q : Nat) (h : i ≠ k) : (S.setT k q).t i = S.t i := by simp [FS.setT, h]
theorem FS.setT_f (S : FS) (k q : Nat) : (S.setT k q).f = S.f := rfl
theorem FS.setF_setF (S : FS) (p : Nat) (x y : Fl) : (S.setF p x).setF p y = S.setF p y := by
  simp only [FS.setF, FS.mk.injEq, and_true]
  funext i
  split <;> rfl
theorem FS.addR_t (S : FS) (p : Nat) (d : Int) : (S.addR p d).t = S.t := rfl

def isP (n : Int) : Bool := decide (1 ≤ n) && decide (n ≤ 8)
def isD (n : Int) : Bool := decide (0 ≤ n) && decide (n < 6)
theorem isP_nat {n : Int} (h : isP n = true) : ∃ m : Nat, n = (m : Int) + 1 ∧ m < 8 := by
  simp [isP] at h
  exact ⟨(n - 1).toNat, by omega, by omega⟩
theorem isP_of {m : Nat} (h : m < 8) : isP ((m : Int) + 1) = true := by simp [isP]; omega
theorem isP_no {n : Int} (h : isP n = false) : n < 1 ∨ 8 < n := by
  simp [isP] at h
  omega
theorem isD_nat {n : Int} (h : isD n = true) : ∃ m : Nat, n = (m : Int) ∧ m < 6 := by
  simp [isD] at h
  exact ⟨n.toNat, by omega, by omega⟩
theorem isD_of {m : Nat} (h : m < 6) : isD (m : Int) = true := by simp [isD]; omega
theorem isD_no {n : Int} (h : isD n = false) : n < 0 ∨ 6 ≤ n := by
  simp [isD] at h
  omega
/-- A descriptor's number. -/
def key (pid fd : Int) : Nat := (pid - 1).toNat * 6 + fd.toNat
theorem key_of (m k : Nat) : key ((m : Int) + 1) k = m * 6 + k := by
  unfold key
  omega
theorem key_lt {pid fd : Int} (hp : isP pid = true) (hd : isD fd = true) : key pid fd < 48 := by
  obtain ⟨m, rfl, hm⟩ := isP_nat hp
  obtain ⟨k, rfl, hk⟩ := isD_nat hd
  rw [key_of]
  omega
/-- What a descriptor names. -/
def nm (S : FS) (pid fd : Int) : Nat := if isP pid && isD fd then S.t (key pid fd) else 0

/-- The lowest of the first n; -1: there is none. -/
def low (q : Nat → Bool) : Nat → Int
  | 0 => -1
  | n + 1 => if 0 ≤ low q n then low q n else if q n then n else -1
theorem low_spec (q : Nat → Bool) : ∀ n, (∃ i, i < n ∧ q i = true ∧ (∀ j, j < i → q j = false) ∧ low q n = (i : Int)) ∨ ((∀ j, j < n → q j = false) ∧ low q n = -1)
  | 0 => Or.inr ⟨fun j hj => by omega, rfl⟩
  | n + 1 => by
    rcases low_spec q n with ⟨i, hi, h1, h2, h3⟩ | ⟨h1, h2⟩
    · left
      refine ⟨i, by omega, h1, h2, ?_⟩
      unfold low
      rw [h3, if_pos (by omega)]
    · cases hq : q n with
      | true =>
        left
        refine ⟨n, by omega, hq, h1, ?_⟩
        unfold low
        rw [h2, if_neg (by omega), if_pos hq]
      | false =>
        right
        refine ⟨fun j hj => ?_, ?_⟩
        · rcases Nat.lt_or_ge j n with h | h
          · exact h1 j h
          · have : j = n := by omega
            rw [this]
            exact hq
        · unfold low
          rw [h2, if_neg (by omega), if_neg (by simp [hq])]
theorem low_yes {q : Nat → Bool} {n i : Nat} (hi : i < n) (h1 : q i = true) (h2 : ∀ j, j < i → q j = false) : low q n = (i : Int) := by
  rcases low_spec q n with ⟨j, hj, g1, g2, g3⟩ | ⟨g1, g2⟩
  · have : j = i := by
      rcases Nat.lt_trichotomy i j with h | h | h
      · rw [g2 i h] at h1; cases h1
      · omega
      · rw [h2 j h] at g1; cases g1
    rw [g3, this]
  · rw [g1 i hi] at h1; cases h1
theorem low_no {q : Nat → Bool} {n : Nat} (h : ∀ j, j < n → q j = false) : low q n = -1 := by
  rcases low_spec q n with ⟨j, hj, g1, g2, g3⟩ | ⟨g1, g2⟩
  · rw [h j hj] at g1; cases g1
  · exact g2

/-- The lowest free descriptor of a process; the lowest free place. -/
def fdOf (S : FS) (m : Nat) : Int := low (fun i => S.t (m * 6 + i) == 0) 6
def plOf (S : FS) : Int := low (fun p => (S.f p).refs == 0) 32

def openOk (S : FS) (pid : Int) : Bool := isP pid && decide (0 ≤ fdOf S (pid - 1).toNat) && decide (0 ≤ plOf S)
def openE (S : FS) (pid : Int) : Int := if isP pid then (if openOk S pid then 0 else 24) else 9
def openA (S : FS) (pid : Int) : Int := if openOk S pid then fdOf S (pid - 1).toNat else 0
def openT (S : FS) (pid : Int) (x : Fl) : FS :=
  if openOk S pid then (S.setF (plOf S).toNat (x.re 1)).setT (key pid (fdOf S (pid - 1).toNat)) ((plOf S).toNat + 1) else S

def dupOk (S : FS) (pid fd : Int) : Bool := nm S pid fd != 0 && decide (0 ≤ fdOf S (pid - 1).toNat)
def dupE (S : FS) (pid fd : Int) : Int := if nm S pid fd = 0 then 9 else if 0 ≤ fdOf S (pid - 1).toNat then 0 else 24
def dupA (S : FS) (pid fd : Int) : Int := if dupOk S pid fd then fdOf S (pid - 1).toNat else 0
def dupT (S : FS) (pid fd : Int) : FS :=
  if dupOk S pid fd then (S.setT (key pid (fdOf S (pid - 1).toNat)) (nm S pid fd)).addR (nm S pid fd - 1) 1 else S

def getE (S : FS) (pid fd : Int) : Int := if nm S pid fd = 0 then 9 else 0
def getX (S : FS) (pid fd : Int) : Fl := if nm S pid fd = 0 then Fl.no else S.f (nm S pid fd - 1)
def closeX (S : FS) (pid fd : Int) : Fl := if nm S pid fd = 0 then Fl.no else (S.f (nm S pid fd - 1)).re ((S.f (nm S pid fd - 1)).refs - 1)
/-- A file with one fewer. -/
def Fl.less (x : Fl) : Fl := if x.refs - 1 = 0 then Fl.no else x.re (x.refs - 1)
def closeT (S : FS) (pid fd : Int) : FS :=
  if nm S pid fd = 0 then S else (S.setT (key pid fd) 0).setF (nm S pid fd - 1) (S.f (nm S pid fd - 1)).less

def seekE (S : FS) (pid fd off : Int) : Int := if nm S pid fd = 0 then 9 else if off < 0 then 22 else 0
def seekT (S : FS) (pid fd off : Int) : FS := if nm S pid fd = 0 ∨ off < 0 then S else S.setF (nm S pid fd - 1) ((S.f (nm S pid fd - 1)).at off)

/-- One descriptor of a child. -/
def forkStep (S : FS) (a b k : Nat) : FS :=
  if S.t (b * 6 + k) = 0 ∧ S.t (a * 6 + k) ≠ 0 then (S.setT (b * 6 + k) (S.t (a * 6 + k))).addR (S.t (a * 6 + k) - 1) 1 else S
def forkTo (S : FS) (a b : Nat) : Nat → FS
  | 0 => S
  | k + 1 => forkStep (forkTo S a b k) a b k
def forkT (S : FS) (pid child : Int) : FS := if isP pid && isP child then forkTo S (pid - 1).toNat (child - 1).toNat 6 else S

def goneTo (S : FS) (pid : Int) : Nat → FS
  | 0 => S
  | k + 1 => closeT (goneTo S pid k) pid k
def goneL (S : FS) (pid : Int) : Nat → List Fl
  | 0 => []
  | k + 1 => if nm (goneTo S pid k) pid k = 0 then goneL S pid k else goneL S pid k ++ [closeX (goneTo S pid k) pid k]

/-- How many of the first k descriptors of a process are free. -/
def leftTo (S : FS) (m : Nat) : Nat → Nat
  | 0 => 0
  | k + 1 => if S.t (m * 6 + k) = 0 then leftTo S m k + 1 else leftTo S m k
theorem leftTo_succ (S : FS) (m k : Nat) : leftTo S m (k + 1) = if S.t (m * 6 + k) = 0 then leftTo S m k + 1 else leftTo S m k := rfl
def leftA (S : FS) (pid : Int) : Int := if isP pid then (leftTo S (pid - 1).toNat 6 : Int) else 0
theorem leftTo_le (S : FS) (m : Nat) : ∀ k, leftTo S m k ≤ k
  | 0 => Nat.le_refl _
  | k + 1 => by
    have := leftTo_le S m k
    unfold leftTo
    split <;> omega

/-- The ids of the open files of a kind, by their places. -/
def idsTo (S : FS) (kind : Int) : Nat → List Int
  | 0 => []
  | k + 1 => if 0 < (S.f k).refs ∧ (S.f k).kind = kind then idsTo S kind k ++ [(S.f k).id] else idsTo S kind k
theorem idsTo_succ (S : FS) (kind : Int) (k : Nat) : idsTo S kind (k + 1) = if 0 < (S.f k).refs ∧ (S.f k).kind = kind then idsTo S kind k ++ [(S.f k).id] else idsTo S kind k := rfl
theorem idsTo_len (S : FS) (kind : Int) : ∀ k, (idsTo S kind k).length ≤ k
  | 0 => Nat.le_refl _
  | k + 1 => by
    have := idsTo_len S kind k
    unfold idsTo
    split
    · simp; omega
    · omega

/-- The names in the order in which they come first. -/
def ordTo (t : Nat → Nat) : Nat → List Nat
  | 0 => []
  | k + 1 => if t k ≠ 0 ∧ t k ∉ ordTo t k then ordTo t k ++ [t k] else ordTo t k
def ord (t : Nat → Nat) : List Nat := ordTo t 48
/-- A name counted so. -/
def cn (l : List Nat) (q : Nat) : Nat := if q = 0 then 0 else if q ∈ l then l.idxOf q + 1 else 0
theorem ordTo_len (t : Nat → Nat) : ∀ k, (ordTo t k).length ≤ k
  | 0 => Nat.le_refl _
  | k + 1 => by
    have := ordTo_len t k
    unfold ordTo
    split
    · simp; omega
    · omega
theorem mem_ordTo (t : Nat → Nat) (q : Nat) : ∀ k, q ∈ ordTo t k ↔ q ≠ 0 ∧ ∃ i, i < k ∧ t i = q
  | 0 => by simp [ordTo]
  | k + 1 => by
    have ih := mem_ordTo t q k
    unfold ordTo
    split
    · rename_i h
      rw [List.mem_append, ih, List.mem_singleton]
      constructor
      · rintro (⟨h0, i, hi, e⟩ | e)
        · exact ⟨h0, i, by omega, e⟩
        · exact ⟨by rw [e]; exact h.1, k, by omega, e.symm⟩
      · rintro ⟨h0, i, hi, e⟩
        rcases Nat.lt_or_ge i k with hk | hk
        · exact Or.inl ⟨h0, i, hk, e⟩
        · have : i = k := by omega
          rw [this] at e
          exact Or.inr e.symm
    · rename_i h
      rw [ih]
      constructor
      · rintro ⟨h0, i, hi, e⟩
        exact ⟨h0, i, by omega, e⟩
      · rintro ⟨h0, i, hi, e⟩
        rcases Nat.lt_or_ge i k with hk | hk
        · exact ⟨h0, i, hk, e⟩
        · have hik : i = k := by omega
          rw [hik] at e
          have hm : t k ∈ ordTo t k := by
            rcases Classical.em (t k ∈ ordTo t k) with hm | hm
            · exact hm
            · exact absurd ⟨by rw [e]; exact h0, hm⟩ h
          rw [e] at hm
          exact ih.1 hm
theorem ordTo_nodup (t : Nat → Nat) : ∀ k, (ordTo t k).Nodup
  | 0 => List.nodup_nil
  | k + 1 => by
    have ih := ordTo_nodup t k
    unfold ordTo
    split
    · rename_i h
      rw [List.nodup_append]
      refine ⟨ih, by simp, ?_⟩
      intro a ha b hb
      rw [List.mem_singleton] at hb
      rintro rfl
      exact h.2 (hb ▸ ha)
    · exact ih
theorem mem_ord (t : Nat → Nat) (q : Nat) : q ∈ ord t ↔ q ≠ 0 ∧ ∃ i, i < 48 ∧ t i = q := mem_ordTo t q 48
theorem ord_nodup (t : Nat → Nat) : (ord t).Nodup := ordTo_nodup t 48
theorem ord_len48 (t : Nat → Nat) : (ord t).length ≤ 48 := ordTo_len t 48
theorem ordTo_succ (t : Nat → Nat) (k : Nat) : ordTo t (k + 1) = if t k ≠ 0 ∧ t k ∉ ordTo t k then ordTo t k ++ [t k] else ordTo t k := rfl
/-- A beginning of the order. -/
theorem ordTo_pre (t : Nat → Nat) (k : Nat) : ∀ d, ∃ l, ordTo t (k + d) = ordTo t k ++ l
  | 0 => ⟨[], by simp⟩
  | d + 1 => by
    obtain ⟨l, hl⟩ := ordTo_pre t k d
    rw [← Nat.add_assoc, ordTo_succ]
    split
    · exact ⟨l ++ [t (k + d)], by rw [hl, List.append_assoc]⟩
    · exact ⟨l, hl⟩
theorem cn_pre {l m : List Nat} {q : Nat} (h : q = 0 ∨ q ∈ l) : cn (l ++ m) q = cn l q := by
  unfold cn
  rcases h with rfl | h
  · rfl
  · by_cases h0 : q = 0
    · rw [if_pos h0, if_pos h0]
    · rw [if_neg h0, if_neg h0, if_pos (List.mem_append_left _ h), if_pos h, List.idxOf_append, if_pos h]
theorem ordTo_ord {t : Nat → Nat} {k : Nat} (hk : k ≤ 48) {q : Nat} (h : q = 0 ∨ q ∈ ordTo t k) : cn (ord t) q = cn (ordTo t k) q := by
  obtain ⟨l, hl⟩ := ordTo_pre t k (48 - k)
  rw [show k + (48 - k) = 48 by omega] at hl
  unfold ord
  rw [hl]
  exact cn_pre h
/-- The tables with their names counted anew. -/
def inO (t : Nat → Nat) (k : Nat) : Nat := cn (ord t) (t k)
/-- The first so many counted anew. -/
def inOTo (t : Nat → Nat) (n k : Nat) : Nat := if k < n then inO t k else t k

/-- A file's words. -/
def flW (x : Fl) : List Int := [x.kind, x.id, x.off, if x.app then 1 else 0]
/-- All words. -/
def encH (S : FS) : List Int := ((ord S.t).length : Int) :: (ord S.t).flatMap (fun q => flW (S.f (q - 1)))
def encN (S : FS) (k : Nat) : List Int := (List.range k).map (fun i => (inO S.t i : Int))
def encW (S : FS) : List Int := encH S ++ encN S 48
theorem flW_len (x : Fl) : (flW x).length = 4 := rfl
theorem flat_len (g : Nat → Fl) : ∀ l : List Nat, (l.flatMap (fun q => flW (g q))).length = l.length * 4
  | [] => rfl
  | q :: l => by
    rw [List.flatMap_cons, List.length_append, flat_len g l, flW_len]
    simp
    omega
theorem encH_len (S : FS) : (encH S).length = 1 + (ord S.t).length * 4 := by
  unfold encH
  rw [List.length_cons, flat_len]
  omega
theorem encN_len (S : FS) (k : Nat) : (encN S k).length = k := by simp [encN]
theorem encW_len (S : FS) : (encW S).length = 49 + (ord S.t).length * 4 := by
  unfold encW
  rw [List.length_append, encH_len, encN_len]
  omega
theorem encN_succ (S : FS) (k : Nat) : encN S (k + 1) = encN S k ++ [(inO S.t k : Int)] := by
  simp [encN, List.range_succ]

/-- The descriptors that name one. -/
def ks (t : Nat → Nat) (q : Nat) : List Nat := (List.range 48).filter (fun k => t k == q)
theorem mem_ks (t : Nat → Nat) (q k : Nat) : k ∈ ks t q ↔ k < 48 ∧ t k = q := by simp [ks]
theorem ks_len (t : Nat → Nat) (q : Nat) : (ks t q).length ≤ 48 := by
  unfold ks
  exact Nat.le_trans (List.length_filter_le _ _) (by simp)
/-- What holds of them all: names are places, counts are how many name them. -/
structure Inv (S : FS) : Prop where
  name : ∀ k, k < 48 → S.t k ≤ 32
  refs : ∀ p, p < 32 → (S.f p).refs = ((ks S.t (p + 1)).length : Int)
theorem Inv.zero : Inv FS.zero := ⟨fun k _ => Nat.zero_le _, fun p _ => by
  have : ks (fun _ => 0) (p + 1) = [] := by
    rw [List.eq_nil_iff_forall_not_mem]
    intro k hk
    rw [mem_ks] at hk
    omega
  show (0 : Int) = _
  show (0 : Int) = ((ks (fun _ => 0) (p + 1)).length : Int)
  rw [this]
  rfl⟩
theorem Inv.pos {S : FS} (h : Inv S) {k : Nat} (hk : k < 48) (hn : S.t k ≠ 0) : S.t k - 1 < 32 ∧ 0 < (S.f (S.t k - 1)).refs ∧ (S.f (S.t k - 1)).refs ≤ 48 := by
  have h1 := h.name k hk
  have h2 := h.refs (S.t k - 1) (by omega)
  rw [show S.t k - 1 + 1 = S.t k by omega] at h2
  have h3 : k ∈ ks S.t (S.t k) := (mem_ks _ _ _).2 ⟨hk, rfl⟩
  have h4 := List.length_pos_of_mem h3
  have h5 := ks_len S.t (S.t k)
  exact ⟨by omega, by omega, by omega⟩
theorem Inv.bound {S : FS} (h : Inv S) {p : Nat} (hp : p < 32) : 0 ≤ (S.f p).refs ∧ (S.f p).refs ≤ 48 := by
  have h2 := h.refs p hp
  have h5 := ks_len S.t (p + 1)
  omega
theorem nm_of {S : FS} {m k : Nat} (hm : m < 8) (hk : k < 6) : nm S ((m : Int) + 1) k = S.t (m * 6 + k) := by
  unfold nm
  rw [isP_of hm, isD_of hk, key_of]
  rfl
theorem nm_yes {S : FS} {pid fd : Int} (h : nm S pid fd ≠ 0) : ∃ m k : Nat, pid = (m : Int) + 1 ∧ fd = (k : Int) ∧ m < 8 ∧ k < 6 ∧ nm S pid fd = S.t (m * 6 + k) ∧ S.t (m * 6 + k) ≠ 0 := by
  unfold nm at h
  cases hp : isP pid with
  | false => rw [hp] at h; simp at h
  | true =>
    cases hd : isD fd with
    | false => rw [hd] at h; simp at h
    | true =>
      obtain ⟨m, rfl, hm⟩ := isP_nat hp
      obtain ⟨k, rfl, hk⟩ := isD_nat hd
      rw [hp, hd] at h
      refine ⟨m, k, rfl, rfl, hm, hk, nm_of hm hk, ?_⟩
      simp only [Bool.and_self, if_true, key_of] at h
      exact h
end Go.Proofs.Ytkdbmfckfbmbiaa
