import Derived.Test.YtinaeifpoljfoaaGreatDoorOwnR
set_option linter.all false
set_option maxRecDepth 100000
set_option maxHeartbeats 16000000
namespace Go.Proofs.YtinaeifpoljfoaaGreatDoor
open Go.RowKit
namespace Ow
end Ow
namespace Fd
open Ow
structure Fl where
 kind : Int
 id : Int
 off : Int
 app : Bool
 refs : Int
def Fl.no : Fl := ⟨0, 0, 0, false, 0⟩
def Fl.get (x : Fl) : Nat → Value
 | 0 => .int .i64 x.kind
 | 1 => .int .i64 x.id
 | 2 => .int .i64 x.off
 | 3 => .bool x.app
 | _ => .int .i64 x.refs
abbrev Fl.row (x : Fl) : Array Value := #[.int .i64 x.kind, .int .i64 x.id, .int .i64 x.off, .bool x.app, .int .i64 x.refs]
def Fl.re (x : Fl) (n : Int) : Fl := ⟨x.kind, x.id, x.off, x.app, n⟩
def Fl.at (x : Fl) (n : Int) : Fl := ⟨x.kind, x.id, n, x.app, x.refs⟩
structure FS where
 f : Nat → Fl
 t : Nat → Nat
def FS.zero : FS := ⟨fun _ => Fl.no, fun _ => 0⟩
def FS.setF (S : FS) (p : Nat) (x : Fl) : FS := ⟨fun i => if i = p then x else S.f i, S.t⟩
def FS.setT (S : FS) (k q : Nat) : FS := ⟨S.f, fun i => if i = k then q else S.t i⟩
def FS.addR (S : FS) (p : Nat) (d : Int) : FS := S.setF p ((S.f p).re ((S.f p).refs + d))
theorem FS.setF_same (S : FS) (p : Nat) (x : Fl) : (S.setF p x).f p = x := by simp [FS.setF]
theorem FS.setF_other (S : FS) (p i : Nat) (x : Fl) (h : i ≠ p) : (S.setF p x).f i = S.f i := by simp [FS.setF, h]
theorem FS.setT_same (S : FS) (k q : Nat) : (S.setT k q).t k = q := by simp [FS.setT]
theorem FS.setT_other (S : FS) (k i q : Nat) (h : i ≠ k) : (S.setT k q).t i = S.t i := by simp [FS.setT, h]
theorem FS.setF_setF (S : FS) (p : Nat) (x y : Fl) : (S.setF p x).setF p y = S.setF p y := by
 simp only [FS.setF, FS.mk.injEq, and_true]
 funext i
 split <;> rfl
def isP (n : Int) : Bool := decide (1 ≤ n) && decide (n ≤ 8)
def isD (n : Int) : Bool := decide (0 ≤ n) && decide (n < 6)
theorem isP_nat {n : Int} (h : isP n = true) : ∃ m : Nat, n = (m : Int) + 1 ∧ m < 8 := by
 simp [isP] at h;exact ⟨(n - 1).toNat, by omega, by omega⟩
theorem isP_of {m : Nat} (h : m < 8) : isP ((m : Int) + 1) = true := by simp [isP]; omega
theorem isP_no {n : Int} (h : isP n = false) : n < 1 ∨ 8 < n := by
 simp [isP] at h;omega
theorem isD_nat {n : Int} (h : isD n = true) : ∃ m : Nat, n = (m : Int) ∧ m < 6 := by
 simp [isD] at h;exact ⟨n.toNat, by omega, by omega⟩
theorem isD_of {m : Nat} (h : m < 6) : isD (m : Int) = true := by simp [isD]; omega
theorem isD_no {n : Int} (h : isD n = false) : n < 0 ∨ 6 ≤ n := by
 simp [isD] at h;omega
def key (pid fd : Int) : Nat := (pid - 1).toNat * 6 + fd.toNat
theorem key_of (m k : Nat) : key ((m : Int) + 1) k = m * 6 + k := by
 unfold key;omega
theorem key_lt {pid fd : Int} (hp : isP pid = true) (hd : isD fd = true) : key pid fd < 48 := by
 obtain ⟨m, rfl, hm⟩ := isP_nat hp;obtain ⟨k, rfl, hk⟩ := isD_nat hd;rw [key_of];omega
def nm (S : FS) (pid fd : Int) : Nat := if isP pid && isD fd then S.t (key pid fd) else 0
def low (q : Nat → Bool) : Nat → Int
 | 0 => -1
 | n + 1 => if 0 ≤ low q n then low q n else if q n then n else -1
theorem low_spec (q : Nat → Bool) : ∀ n, (∃ i, i < n ∧ q i = true ∧ (∀ j, j < i → q j = false) ∧ low q n = (i : Int)) ∨ ((∀ j, j < n → q j = false) ∧ low q n = -1)
 | 0 => Or.inr ⟨fun j hj => by omega, rfl⟩
 | n + 1 => by
  rcases low_spec q n with ⟨i, hi, h1, h2, h3⟩ | ⟨h1, h2⟩
  ·left
   refine ⟨i, by omega, h1, h2, ?_⟩;unfold low;rw [h3, if_pos (by omega)]
  ·cases hq : q n with
   | true =>
    left;refine ⟨n, by omega, hq, h1, ?_⟩;unfold low;rw [h2, if_neg (by omega), if_pos hq]
   | false =>
    right;refine ⟨fun j hj => ?_, ?_⟩
    ·rcases Nat.lt_or_ge j n with h | h
     ·exact h1 j h
     ·have : j = n := by omega
      rw [this];exact hq
    ·unfold low
     rw [h2, if_neg (by omega), if_neg (by simp [hq])]
theorem low_yes {q : Nat → Bool} {n i : Nat} (hi : i < n) (h1 : q i = true) (h2 : ∀ j, j < i → q j = false) : low q n = (i : Int) := by
 rcases low_spec q n with ⟨j, hj, g1, g2, g3⟩ | ⟨g1, g2⟩
 ·have : j = i := by
   rcases Nat.lt_trichotomy i j with h | h | h
   ·rw [g2 i h] at h1; cases h1
   ·omega
   ·rw [h2 j h] at g1; cases g1
  rw [g3, this]
 ·rw [g1 i hi] at h1; cases h1
theorem low_no {q : Nat → Bool} {n : Nat} (h : ∀ j, j < n → q j = false) : low q n = -1 := by
 rcases low_spec q n with ⟨j, hj, g1, g2, g3⟩ | ⟨g1, g2⟩
 ·rw [h j hj] at g1; cases g1
 ·exact g2
def fdOf (S : FS) (m : Nat) : Int := low (fun i => S.t (m * 6 + i) == 0) 6
def plOf (S : FS) : Int := low (fun p => (S.f p).refs == 0) 32
def openOk (S : FS) (pid : Int) : Bool := isP pid && decide (0 ≤ fdOf S (pid - 1).toNat) && decide (0 ≤ plOf S)
def openE (S : FS) (pid : Int) : Int := if isP pid then (if openOk S pid then 0 else 24) else 9
def openA (S : FS) (pid : Int) : Int := if openOk S pid then fdOf S (pid - 1).toNat else 0
def openT (S : FS) (pid : Int) (x : Fl) : FS :=
 if openOk S pid then (S.setF (plOf S).toNat (x.re 1)).setT (key pid (fdOf S (pid - 1).toNat)) ((plOf S).toNat + 1) else S
def getE (S : FS) (pid fd : Int) : Int := if nm S pid fd = 0 then 9 else 0
def getX (S : FS) (pid fd : Int) : Fl := if nm S pid fd = 0 then Fl.no else S.f (nm S pid fd - 1)
def leftTo (S : FS) (m : Nat) : Nat → Nat
 | 0 => 0
 | k + 1 => if S.t (m * 6 + k) = 0 then leftTo S m k + 1 else leftTo S m k
theorem leftTo_succ (S : FS) (m k : Nat) : leftTo S m (k + 1) = if S.t (m * 6 + k) = 0 then leftTo S m k + 1 else leftTo S m k := rfl
def leftA (S : FS) (pid : Int) : Int := if isP pid then (leftTo S (pid - 1).toNat 6 : Int) else 0
theorem leftTo_le (S : FS) (m : Nat) : ∀ k, leftTo S m k ≤ k
 | 0 => Nat.le_refl _
 | k + 1 => by
  have := leftTo_le S m k;unfold leftTo
  split <;> omega
def idsTo (S : FS) (kind : Int) : Nat → List Int
 | 0 => []
 | k + 1 => if 0 < (S.f k).refs ∧ (S.f k).kind = kind then idsTo S kind k ++ [(S.f k).id] else idsTo S kind k
theorem idsTo_succ (S : FS) (kind : Int) (k : Nat) : idsTo S kind (k + 1) = if 0 < (S.f k).refs ∧ (S.f k).kind = kind then idsTo S kind k ++ [(S.f k).id] else idsTo S kind k := rfl
theorem idsTo_len (S : FS) (kind : Int) : ∀ k, (idsTo S kind k).length ≤ k
 | 0 => Nat.le_refl _
 | k + 1 => by
  have := idsTo_len S kind k;unfold idsTo
  split
  ·simp; omega
  ·omega
def ordTo (t : Nat → Nat) : Nat → List Nat
 | 0 => []
 | k + 1 => if t k ≠ 0 ∧ t k ∉ ordTo t k then ordTo t k ++ [t k] else ordTo t k
def ord (t : Nat → Nat) : List Nat := ordTo t 48
def cn (l : List Nat) (q : Nat) : Nat := if q = 0 then 0 else if q ∈ l then l.idxOf q + 1 else 0
theorem ordTo_len (t : Nat → Nat) : ∀ k, (ordTo t k).length ≤ k
 | 0 => Nat.le_refl _
 | k + 1 => by
  have := ordTo_len t k;unfold ordTo
  split
  ·simp; omega
  ·omega
theorem mem_ordTo (t : Nat → Nat) (q : Nat) : ∀ k, q ∈ ordTo t k ↔ q ≠ 0 ∧ ∃ i, i < k ∧ t i = q
 | 0 => by simp [ordTo]
 | k + 1 => by
  have ih := mem_ordTo t q k;unfold ordTo
  split
  ·rename_i h
   rw [List.mem_append, ih, List.mem_singleton];constructor
   ·rintro (⟨h0, i, hi, e⟩ | e)
    ·exact ⟨h0, i, by omega, e⟩
    ·exact ⟨by rw [e]; exact h.1, k, by omega, e.symm⟩
   ·rintro ⟨h0, i, hi, e⟩
    rcases Nat.lt_or_ge i k with hk | hk
    ·exact Or.inl ⟨h0, i, hk, e⟩
    ·have : i = k := by omega
     rw [this] at e;exact Or.inr e.symm
  ·rename_i h
   rw [ih];constructor
   ·rintro ⟨h0, i, hi, e⟩
    exact ⟨h0, i, by omega, e⟩
   ·rintro ⟨h0, i, hi, e⟩
    rcases Nat.lt_or_ge i k with hk | hk
    ·exact ⟨h0, i, hk, e⟩
    ·have hik : i = k := by omega
     rw [hik] at e
     have hm : t k ∈ ordTo t k := by
      rcases Classical.em (t k ∈ ordTo t k) with hm | hm
      ·exact hm
      ·exact absurd ⟨by rw [e]; exact h0, hm⟩ h
     rw [e] at hm;exact ih.1 hm
theorem ordTo_nodup (t : Nat → Nat) : ∀ k, (ordTo t k).Nodup
 | 0 => List.nodup_nil
 | k + 1 => by
  have ih := ordTo_nodup t k;unfold ordTo
  split
  ·rename_i h
   rw [List.nodup_append];refine ⟨ih, by simp, ?_⟩;intro a ha b hb;rw [List.mem_singleton] at hb;rintro rfl;exact h.2 (hb ▸ ha)
  ·exact ih
theorem mem_ord (t : Nat → Nat) (q : Nat) : q ∈ ord t ↔ q ≠ 0 ∧ ∃ i, i < 48 ∧ t i = q := mem_ordTo t q 48
theorem ord_nodup (t : Nat → Nat) : (ord t).Nodup := ordTo_nodup t 48
theorem ord_len48 (t : Nat → Nat) : (ord t).length ≤ 48 := ordTo_len t 48
theorem ordTo_succ (t : Nat → Nat) (k : Nat) : ordTo t (k + 1) = if t k ≠ 0 ∧ t k ∉ ordTo t k then ordTo t k ++ [t k] else ordTo t k := rfl
theorem ordTo_pre (t : Nat → Nat) (k : Nat) : ∀ d, ∃ l, ordTo t (k + d) = ordTo t k ++ l
 | 0 => ⟨[], by simp⟩
 | d + 1 => by
  obtain ⟨l, hl⟩ := ordTo_pre t k d;rw [← Nat.add_assoc, ordTo_succ]
  split
  ·exact ⟨l ++ [t (k + d)], by rw [hl, List.append_assoc]⟩
  ·exact ⟨l, hl⟩
theorem cn_pre {l m : List Nat} {q : Nat} (h : q = 0 ∨ q ∈ l) : cn (l ++ m) q = cn l q := by
 unfold cn
 rcases h with rfl | h
 ·rfl
 ·by_cases h0 : q = 0
  ·rw [if_pos h0, if_pos h0]
  ·rw [if_neg h0, if_neg h0, if_pos (List.mem_append_left _ h), if_pos h, List.idxOf_append, if_pos h]
theorem ordTo_ord {t : Nat → Nat} {k : Nat} (hk : k ≤ 48) {q : Nat} (h : q = 0 ∨ q ∈ ordTo t k) : cn (ord t) q = cn (ordTo t k) q := by
 obtain ⟨l, hl⟩ := ordTo_pre t k (48 - k);rw [show k + (48 - k) = 48 by omega] at hl;unfold ord;rw [hl];exact cn_pre h
def inO (t : Nat → Nat) (k : Nat) : Nat := cn (ord t) (t k)
def inOTo (t : Nat → Nat) (n k : Nat) : Nat := if k < n then inO t k else t k
def flW (x : Fl) : List Int := [x.kind, x.id, x.off, if x.app then 1 else 0]
def encH (S : FS) : List Int := ((ord S.t).length : Int) :: (ord S.t).flatMap (fun q => flW (S.f (q - 1)))
def encN (S : FS) (k : Nat) : List Int := (List.range k).map (fun i => (inO S.t i : Int))
def encW (S : FS) : List Int := encH S ++ encN S 48
theorem flW_len (x : Fl) : (flW x).length = 4 := rfl
theorem flat_len (g : Nat → Fl) : ∀ l : List Nat, (l.flatMap (fun q => flW (g q))).length = l.length * 4
 | [] => rfl
 | q :: l => by
  rw [List.flatMap_cons, List.length_append, flat_len g l, flW_len];simp;omega
theorem encH_len (S : FS) : (encH S).length = 1 + (ord S.t).length * 4 := by
 unfold encH;rw [List.length_cons, flat_len];omega
theorem encN_len (S : FS) (k : Nat) : (encN S k).length = k := by simp [encN]
theorem encW_len (S : FS) : (encW S).length = 49 + (ord S.t).length * 4 := by
 unfold encW;rw [List.length_append, encH_len, encN_len];omega
theorem encN_succ (S : FS) (k : Nat) : encN S (k + 1) = encN S k ++ [(inO S.t k : Int)] := by
 simp [encN, List.range_succ]
def ks (t : Nat → Nat) (q : Nat) : List Nat := (List.range 48).filter (fun k => t k == q)
theorem mem_ks (t : Nat → Nat) (q k : Nat) : k ∈ ks t q ↔ k < 48 ∧ t k = q := by simp [ks]
theorem ks_len (t : Nat → Nat) (q : Nat) : (ks t q).length ≤ 48 := by
 unfold ks;exact Nat.le_trans (List.length_filter_le _ _) (by simp)
structure Inv (S : FS) : Prop where
 name : ∀ k, k < 48 → S.t k ≤ 32
 refs : ∀ p, p < 32 → (S.f p).refs = ((ks S.t (p + 1)).length : Int)
theorem Inv.zero : Inv FS.zero := ⟨fun k _ => Nat.zero_le _, fun p _ => by
  have : ks (fun _ => 0) (p + 1) = [] := by
    rw [List.eq_nil_iff_forall_not_mem];intro k hk;rw [mem_ks] at hk;omega
  show (0 : Int) = _
  show (0 : Int) = ((ks (fun _ => 0) (p + 1)).length : Int)
  rw [this]
  rfl⟩
theorem Inv.pos {S : FS} (h : Inv S) {k : Nat} (hk : k < 48) (hn : S.t k ≠ 0) : S.t k - 1 < 32 ∧ 0 < (S.f (S.t k - 1)).refs ∧ (S.f (S.t k - 1)).refs ≤ 48 := by
 have h1 := h.name k hk;have h2 := h.refs (S.t k - 1) (by omega);rw [show S.t k - 1 + 1 = S.t k by omega] at h2;have h3 : k ∈ ks S.t (S.t k) := (mem_ks _ _ _).2 ⟨hk, rfl⟩;have h4 := List.length_pos_of_mem h3;have h5 := ks_len S.t (S.t k);exact ⟨by omega, by omega, by omega⟩
theorem Inv.bound {S : FS} (h : Inv S) {p : Nat} (hp : p < 32) : 0 ≤ (S.f p).refs ∧ (S.f p).refs ≤ 48 := by
 have h2 := h.refs p hp;have h5 := ks_len S.t (p + 1);omega
theorem nm_of {S : FS} {m k : Nat} (hm : m < 8) (hk : k < 6) : nm S ((m : Int) + 1) k = S.t (m * 6 + k) := by
 unfold nm;rw [isP_of hm, isD_of hk, key_of]
 rfl
theorem nm_yes {S : FS} {pid fd : Int} (h : nm S pid fd ≠ 0) : ∃ m k : Nat, pid = (m : Int) + 1 ∧ fd = (k : Int) ∧ m < 8 ∧ k < 6 ∧ nm S pid fd = S.t (m * 6 + k) ∧ S.t (m * 6 + k) ≠ 0 := by
 unfold nm at h
 cases hp : isP pid with
 | false => rw [hp] at h; simp at h
 | true =>
  cases hd : isD fd with
  | false => rw [hd] at h; simp at h
  | true =>
   obtain ⟨m, rfl, hm⟩ := isP_nat hp;obtain ⟨k, rfl, hk⟩ := isD_nat hd;rw [hp, hd] at h;refine ⟨m, k, rfl, rfl, hm, hk, nm_of hm hk, ?_⟩;simp only [Bool.and_self, if_true, key_of] at h;exact h
end Fd
namespace Ow
end Ow
namespace Fd
open Ow
structure FdAt (w : World) (b : Nat) (S : FS) : Prop where
 head : ∃ row : Array Value, w.heap[b]? = some (.cells row 109) ∧ row.size = 208 ∧ (∀ p, p < 32 → ∀ k, k < 5 → row[p * 5 + k]? = some ((S.f p).get k)) ∧ (∀ i, i < 48 → row[160 + i]? = some (.int .i64 (S.t i : Nat)))
section
variable {w w' : World} {b : Nat} {S : FS}
theorem FdAt.lt (h : FdAt w b S) : b < w.heap.size := by
 obtain ⟨row, hr, _⟩ := h.head;exact lt_of_heap hr
theorem FdAt.keep (h : FdAt w b S) (hb : w'.heap[b]? = w.heap[b]?) : FdAt w' b S := by
 obtain ⟨row, hr, h1⟩ := h.head;exact ⟨⟨row, hb.trans hr, h1⟩⟩
theorem FdAt.below (h : FdAt w b S) (hb : Below w.heap.size w w') : FdAt w' b S := h.keep (hb.block _ h.lt)
theorem FdAt.drew (h : FdAt w b S) : FdAt w.drew b S := h.keep rfl
theorem FdAt.fcell (h : FdAt w b S) {p k o : Nat} (hp : p < 32) (hk : k < 5) (ho : o = p * 5 + k) : w.cell? ⟨b, o, none⟩ = some ((S.f p).get k) := by
 obtain ⟨row, hr, _, h2, _⟩ := h.head;rw [cell_of_heap hr, ho];exact h2 p hp k hk
theorem FdAt.tcell (h : FdAt w b S) {i o : Nat} (hi : i < 48) (ho : o = 160 + i) : w.cell? ⟨b, o, none⟩ = some (.int .i64 (S.t i : Nat)) := by
 obtain ⟨row, hr, _, _, h3⟩ := h.head;rw [cell_of_heap hr, ho];exact h3 i hi
theorem FdAt.free (h : FdAt w b S) (o : Nat) : w.frozen? ⟨b, o, none⟩ = false := by
 obtain ⟨row, hr, _⟩ := h.head;exact frozen_of_heap hr
theorem FdAt.setF (h : FdAt w b S) {p k o : Nat} (hp : p < 32) (hk : k < 5) (ho : o = p * 5 + k) (v : Value) (x : Fl) (h1 : x.get k = v) (h2 : ∀ i, i < 5 → i ≠ k → x.get i = (S.f p).get i) :
  FdAt (w.setCell ⟨b, o, none⟩ v) b (S.setF p x) := by
 obtain ⟨row, hr, hs, hc, ht⟩ := h.head;subst ho;refine ⟨⟨row.setIfInBounds (p * 5 + k) v, ?_, by simp [hs], fun i hi m hm => ?_, fun i hi => ?_⟩⟩
 ·rw [setCell_eq_setRow w b _ _ _ _ _ hr, setRow_heap w b _ _ _ _ hr]
 ·rw [Array.getElem?_setIfInBounds]
  by_cases he : p * 5 + k = i * 5 + m
  ·have hij : i = p := by omega
   have hmk : m = k := by omega
   subst hij hmk;rw [if_pos he, if_pos (by omega), FS.setF_same, h1]
  ·rw [if_neg he]
   by_cases hij : i = p
   ·subst hij
    rw [FS.setF_same, h2 m hm (by omega)];exact hc i hi m hm
   ·rw [FS.setF_other _ _ _ _ hij]
    exact hc i hi m hm
 ·rw [Array.getElem?_setIfInBounds, if_neg (by omega)]
  exact ht i hi
theorem FdAt.setT (h : FdAt w b S) {i o : Nat} (hi : i < 48) (ho : o = 160 + i) (q : Nat) :
  FdAt (w.setCell ⟨b, o, none⟩ (.int .i64 (q : Nat))) b (S.setT i q) := by
 obtain ⟨row, hr, hs, hc, ht⟩ := h.head;subst ho;refine ⟨⟨row.setIfInBounds (160 + i) (.int .i64 (q : Nat)), ?_, by simp [hs], fun j hj m hm => ?_, fun j hj => ?_⟩⟩
 ·rw [setCell_eq_setRow w b _ _ _ _ _ hr, setRow_heap w b _ _ _ _ hr]
 ·rw [Array.getElem?_setIfInBounds, if_neg (by omega)]
  exact hc j hj m hm
 ·rw [Array.getElem?_setIfInBounds]
  by_cases he : 160 + i = 160 + j
  ·have hij : j = i := by omega
   subst hij;rw [if_pos he, if_pos (by omega), FS.setT_same]
  ·rw [if_neg he, FS.setT_other _ _ _ _ (by omega)]
   exact ht j hj
theorem FdAt.put5 (h : FdAt w b S) {p : Nat} (hp : p < 32) (x : Fl) :
  FdAt (((((w.setCell ⟨b, p * 5, none⟩ (.int .i64 x.kind)).setCell ⟨b, p * 5 + 1, none⟩ (.int .i64 x.id)).setCell ⟨b, p * 5 + 2, none⟩ (.int .i64 x.off)).setCell ⟨b, p * 5 + 3, none⟩ (.bool x.app)).setCell ⟨b, p * 5 + 4, none⟩ (.int .i64 x.refs)) b (S.setF p x) := by
 have h0 := h.setF (p := p) (k := 0) (o := p * 5) hp (by omega) (by omega) (.int .i64 x.kind) ⟨x.kind, (S.f p).id, (S.f p).off, (S.f p).app, (S.f p).refs⟩ rfl (fun i hi hne => by
   obtain rfl | rfl | rfl | rfl : i = 1 ∨ i = 2 ∨ i = 3 ∨ i = 4 := by omega
   all_goals rfl)
 have h1 := h0.setF (p := p) (k := 1) (o := p * 5 + 1) hp (by omega) (by omega) (.int .i64 x.id) ⟨x.kind, x.id, (S.f p).off, (S.f p).app, (S.f p).refs⟩ rfl (fun i hi hne => by
   rw [FS.setF_same]
   obtain rfl | rfl | rfl | rfl : i = 0 ∨ i = 2 ∨ i = 3 ∨ i = 4 := by omega
   all_goals rfl)
 have h2 := h1.setF (p := p) (k := 2) (o := p * 5 + 2) hp (by omega) (by omega) (.int .i64 x.off) ⟨x.kind, x.id, x.off, (S.f p).app, (S.f p).refs⟩ rfl (fun i hi hne => by
   rw [FS.setF_same]
   obtain rfl | rfl | rfl | rfl : i = 0 ∨ i = 1 ∨ i = 3 ∨ i = 4 := by omega
   all_goals rfl)
 have h3 := h2.setF (p := p) (k := 3) (o := p * 5 + 3) hp (by omega) (by omega) (.bool x.app) ⟨x.kind, x.id, x.off, x.app, (S.f p).refs⟩ rfl (fun i hi hne => by
   rw [FS.setF_same]
   obtain rfl | rfl | rfl | rfl : i = 0 ∨ i = 1 ∨ i = 2 ∨ i = 4 := by omega
   all_goals rfl)
 have h4 := h3.setF (p := p) (k := 4) (o := p * 5 + 4) hp (by omega) (by omega) (.int .i64 x.refs) x rfl (fun i hi hne => by
   rw [FS.setF_same]
   obtain rfl | rfl | rfl | rfl : i = 0 ∨ i = 1 ∨ i = 2 ∨ i = 3 := by omega
   all_goals rfl)
 rw [FS.setF_setF, FS.setF_setF, FS.setF_setF, FS.setF_setF] at h4;exact h4
theorem FdAt.cells (h : FdAt w b S) {p : Nat} (hp : p < 32) :
  w.cell? ⟨b, p * 5, none⟩ = some (.int .i64 (S.f p).kind) ∧ w.cell? ⟨b, p * 5 + 1, none⟩ = some (.int .i64 (S.f p).id) ∧ w.cell? ⟨b, p * 5 + 2, none⟩ = some (.int .i64 (S.f p).off) ∧ w.cell? ⟨b, p * 5 + 3, none⟩ = some (.bool (S.f p).app) ∧ w.cell? ⟨b, p * 5 + 4, none⟩ = some (.int .i64 (S.f p).refs) :=
 ⟨h.fcell (k := 0) hp (by omega) (by omega), h.fcell (k := 1) hp (by omega) (by omega), h.fcell (k := 2) hp (by omega) (by omega), h.fcell (k := 3) hp (by omega) (by omega), h.fcell (k := 4) hp (by omega) (by omega)⟩
theorem FdAt.re (h : FdAt w b S) {p : Nat} (hp : p < 32) (n : Int) : FdAt (w.setCell ⟨b, p * 5 + 4, none⟩ (.int .i64 n)) b (S.setF p ((S.f p).re n)) :=
 h.setF (p := p) (k := 4) hp (by omega) (by omega) _ _ rfl (fun i hi hne => by
   obtain rfl | rfl | rfl | rfl : i = 0 ∨ i = 1 ∨ i = 2 ∨ i = 3 := by omega
   all_goals rfl)
theorem FdAt.off (h : FdAt w b S) {p : Nat} (hp : p < 32) (n : Int) : FdAt (w.setCell ⟨b, p * 5 + 2, none⟩ (.int .i64 n)) b (S.setF p ((S.f p).at n)) :=
 h.setF (p := p) (k := 2) hp (by omega) (by omega) _ _ rfl (fun i hi hne => by
   obtain rfl | rfl | rfl | rfl : i = 0 ∨ i = 1 ∨ i = 3 ∨ i = 4 := by omega
   all_goals rfl)
end
theorem ptr_eq (b : Nat) (W : World) : (binOp .eql 55 (.pointer (some ⟨b, 0, none⟩)) (.pointer none)).run Tryz.prog W = .ok (.bool false) W := by go_simp
theorem tptr_eq (b o : Nat) (W : World) : (binOp .eql 245 (.pointer (some ⟨b, o, none⟩)) (.pointer none)).run Tryz.prog W = .ok (.bool false) W := by go_simp
theorem fptr_eq (b o : Nat) (W : World) : (binOp .eql 334 (.pointer (some ⟨b, o, none⟩)) (.pointer none)).run Tryz.prog W = .ok (.bool false) W := by go_simp
theorem table_no (b : Nat) (n : Int) (w : World) (h : isP n = false) :
  Calls Tryz.prog 132 #[.pointer (some ⟨b, 0, none⟩), .int .i64 n] w fun e w' => e = .returned (.pointer none) ∧ w' = w := by
 have hne := ptr_eq b;have hc := isP_no h;clear h
 rcases hc with hc | hc
 ·have g0 : decide (n < 1) = true := decide_eq_true hc
  go_enter Tryz.func132, Tryz.ntmps132
  go_wp2;go_ret;exact ⟨rfl, rfl⟩
 ·have g0 : decide (n < 1) = false := decide_eq_false (by omega)
  have g1 : decide (8 < n) = true := decide_eq_true hc
  go_enter Tryz.func132, Tryz.ntmps132
  go_wp2;go_ret;exact ⟨rfl, rfl⟩
theorem table_at (b m : Nat) (w : World) (hm : m < 8) :
  Calls Tryz.prog 132 #[.pointer (some ⟨b, 0, none⟩), .int .i64 ((m : Int) + 1)] w fun e w' => e = .returned (.pointer (some ⟨b, 160 + m * 6, none⟩)) ∧ w' = w := by
 have hne := ptr_eq b;have g0 : decide ((m : Int) + 1 < 1) = false := decide_eq_false (by omega);have g1 : decide (8 < (m : Int) + 1) = false := decide_eq_false (by omega)
 have hmi : (m : Int) < 8 := by omega
 go_enter Tryz.func132, Tryz.ntmps132
 go_wp2;go_ret;exact ⟨rfl, rfl⟩
end Fd
namespace Ow
end Ow
namespace Fd
open Ow
theorem file_no (b : Nat) (S : FS) (n k : Int) (w : World) (h : FdAt w b S) (hn : nm S n k = 0) :
  Calls Tryz.prog 205 #[.pointer (some ⟨b, 0, none⟩), .int .i64 n, .int .i64 k] w fun e w' => e = .returned (.pointer none) ∧ w' = w := by
 cases hp : isP n with
 | false =>
  have hT := table_no b n w hp;clear h hn hp
  go_enter Tryz.func205, Tryz.ntmps205
  go_wp2_with (go_at_call 132; refine hT.mono ?_; rintro e w1 ⟨rfl, hw⟩; rw [hw]; clear hw w1)
  go_ret;exact ⟨rfl, rfl⟩
 | true =>
  obtain ⟨m, rfl, hm⟩ := isP_nat hp;have hT := table_at b m w hm;have hne := tptr_eq b (160 + m * 6)
  cases hd : isD k with
  | false =>
   have hc := isD_no hd;clear h hn hp hd
   rcases hc with hc | hc
   ·have g0 : decide (k < 0) = true := decide_eq_true hc
    go_enter Tryz.func205, Tryz.ntmps205
    go_wp2_with (go_at_call 132; refine hT.mono ?_; rintro e w1 ⟨rfl, hw⟩; rw [hw]; clear hw w1)
    go_ret;exact ⟨rfl, rfl⟩
   ·have g0 : decide (k < 0) = false := decide_eq_false (by omega)
    have g1 : decide (6 ≤ k) = true := decide_eq_true hc
    go_enter Tryz.func205, Tryz.ntmps205
    go_wp2_with (go_at_call 132; refine hT.mono ?_; rintro e w1 ⟨rfl, hw⟩; rw [hw]; clear hw w1)
    go_ret;exact ⟨rfl, rfl⟩
  | true =>
   obtain ⟨j, rfl, hj⟩ := isD_nat hd;rw [nm_of hm hj] at hn;have c0 := h.tcell (i := m * 6 + j) (o := 160 + m * 6 + j) (by omega) (by omega);rw [hn] at c0;have g0 : decide ((j : Int) < 0) = false := decide_eq_false (by omega);have g1 : decide (6 ≤ (j : Int)) = false := decide_eq_false (by omega)
   have hji : (j : Int) < 6 := by omega
   clear h hn hp hd
   go_enter Tryz.func205, Tryz.ntmps205
   go_wp2_with (go_at_call 132; refine hT.mono ?_; rintro e w1 ⟨rfl, hw⟩; rw [hw]; clear hw w1)
   go_ret;exact ⟨rfl, rfl⟩
theorem file_yes (b : Nat) (S : FS) (m j p : Nat) (w : World) (h : FdAt w b S) (hm : m < 8) (hj : j < 6) (hn : S.t (m * 6 + j) = p + 1) (hp : p < 32) :
  Calls Tryz.prog 205 #[.pointer (some ⟨b, 0, none⟩), .int .i64 ((m : Int) + 1), .int .i64 j] w fun e w' => e = .returned (.pointer (some ⟨b, p * 5, none⟩)) ∧ w' = w.drew := by
 have hT := table_at b m w hm;have hne := tptr_eq b (160 + m * 6);have c0 := h.tcell (i := m * 6 + j) (o := 160 + m * 6 + j) (by omega) (by omega);have c1 := h.drew.tcell (i := m * 6 + j) (o := 160 + m * 6 + j) (by omega) (by omega);rw [hn, Int.natCast_add, Int.natCast_one] at c0 c1;have g0 : decide ((j : Int) < 0) = false := decide_eq_false (by omega);have g1 : decide (6 ≤ (j : Int)) = false := decide_eq_false (by omega);have g2 : ((p : Int) + 1 == 0) = false := beq_false_of_ne (by omega)
 have hji : (j : Int) < 6 := by omega
 have hpi : (p : Int) < 32 := by omega
 clear h hn
 go_enter Tryz.func205, Tryz.ntmps205
 go_wp2_with (go_at_call 132; refine hT.mono ?_; rintro e w1 ⟨rfl, hw⟩; rw [hw]; clear hw w1)
 go_region
 all_goals
  go_wp2;go_ret;exact ⟨rfl, rfl⟩
theorem lowestFree_at (b : Nat) (S : FS) (m : Nat) (w : World) (h : FdAt w b S) (hm : m < 8) :
  Calls Tryz.prog 133 #[.pointer (some ⟨b, 160 + m * 6, none⟩)] w fun e w' => e = .returned (.int .i64 (fdOf S m)) ∧ Below w.heap.size w w' := by
 have HH : Hid _ := h;clear h
 go_enter Tryz.func133, Tryz.ntmps133
 go_wp2
 go_loopw [6] (fun s wr => ∃ (k : Nat), k ≤ 6 ∧ s = .int .i64 k ∧ (∀ i, i < k → S.t (m * 6 + i) ≠ 0) ∧ Below w.heap.size w wr) (fun s _ => 6 - (intOf s).toNat)
 case atStart => exact ⟨0, by omega, rfl, fun i hi => by omega, Below.refl _ _⟩
 case round =>
  obtain ⟨k, hk, rfl, hno, hB⟩ := hrel;have HB := hid hB
  by_cases hlt : k < 6
  ·have h1 := HH.out.below hB
   have c0 := h1.tcell (i := m * 6 + k) (o := 160 + m * 6 + k) (by omega) (by omega);have c1 := h1.drew.tcell (i := m * 6 + k) (o := 160 + m * 6 + k) (by omega) (by omega)
   have hki : (k : Int) < 6 := by omega
   have HN := hid hno
   by_cases h0 : S.t (m * 6 + k) = 0
   ·have HF : Hid (fdOf S m = (k : Int)) := low_yes hlt (by simpa using h0) (fun j hj => by simpa using HN.out j hj)
    rw [h0] at c0 c1;clear h1 hno hB h0
    go_wp2_with fail
    go_region
    all_goals
     go_wp2;go_ret;exact ⟨by rw [HF.out]; rfl, HB.out.drew⟩
   ·have HF := hid h0
    generalize hq : S.t (m * 6 + k) = q at *;have g2 : ((q : Int) == 0) = false := beq_false_of_ne (by omega);have HQ : Hid _ := hq;clear h1 hno hB h0 hq
    go_wp2_with fail
    go_region
    all_goals
     go_wp2;go_roundw
     case rel =>
      refine ⟨k + 1, by omega, by go_num, fun i hi => ?_, HB.out.drew⟩
      rcases Nat.lt_or_ge i k with q1 | q1
      ·exact HN.out i q1
      ·have : i = k := by omega
       rw [this, HQ.out];exact HF.out
     case measure => simp [intOf]; omega
  ·have HF : Hid (fdOf S m = -1) := low_no (fun j hj => by simpa using hno j (by omega))
   clear hno hB
   obtain rfl : k = 6 := by omega
   go_wp2;go_ret;exact ⟨by rw [HF.out]; rfl, HB.out⟩
theorem left_at (b : Nat) (S : FS) (m : Nat) (w : World) (h : FdAt w b S) (hm : m < 8) :
  Calls Tryz.prog 264 #[.pointer (some ⟨b, 160 + m * 6, none⟩)] w fun e w' => e = .returned (.int .i64 (leftTo S m 6 : Nat)) ∧ w' = w := by
 have HH : Hid _ := h;clear h
 go_enter Tryz.func264, Tryz.ntmps264
 go_wp2
 go_loopw [3, 7] (fun n s wr => ∃ (k : Nat), k ≤ 6 ∧ s = .int .i64 k ∧ n = .int .i64 (leftTo S m k : Nat) ∧ wr = w) (fun _ s _ => 6 - (intOf s).toNat)
 case atStart => exact ⟨0, by omega, rfl, rfl, rfl⟩
 case round =>
  obtain ⟨k, hk, rfl, rfl, hw⟩ := hrel;subst hw;have hle := leftTo_le S m k
  by_cases hlt : k < 6
  ·have c0 := HH.out.tcell (i := m * 6 + k) (o := 160 + m * 6 + k) (by omega) (by omega)
   have hki : (k : Int) < 6 := by omega
   by_cases h0 : S.t (m * 6 + k) = 0
   ·have HF : Hid (leftTo S m (k + 1) = leftTo S m k + 1) := by show _ = _; rw [leftTo_succ, if_pos h0]
    rw [h0] at c0;clear h0;generalize leftTo S m k = n at *;go_wp2;go_roundw
    case rel => exact ⟨k + 1, by omega, by go_num, by rw [HF.out]; go_num, by first | rfl | trivial⟩
    case measure => simp [intOf]; omega
   ·have HF : Hid (leftTo S m (k + 1) = leftTo S m k) := by show _ = _; rw [leftTo_succ, if_neg h0]
    generalize hq : S.t (m * 6 + k) = q at *;have g2 : ((q : Int) == 0) = false := beq_false_of_ne (by omega);clear h0 hq;generalize leftTo S m k = n at *;go_wp2;go_roundw
    case rel => exact ⟨k + 1, by omega, by go_num, by rw [HF.out], by first | rfl | trivial⟩
    case measure => simp [intOf]; omega
  ·obtain rfl : k = 6 := by omega
   go_wp2;go_ret;exact ⟨rfl, rfl⟩
def fvals (S : FS) : List Value := (List.range 160).map (fun i => (S.f (i / 5)).get (i % 5))
theorem fvals_get (S : FS) (p k : Nat) (hp : p < 32) (hk : k < 5) : (fvals S)[p * 5 + k]? = some ((S.f p).get k) := by
 unfold fvals;rw [List.getElem?_map, List.getElem?_range (by omega)]
 show some ((S.f ((p * 5 + k) / 5)).get ((p * 5 + k) % 5)) = _
 rw [show (p * 5 + k) / 5 = p by omega, show (p * 5 + k) % 5 = k by omega]
theorem fvals_len (S : FS) : (fvals S).length = 160 := by simp [fvals]
theorem FdAt.range {w : World} {b : Nat} {S : FS} (h : FdAt w b S) : w.rangeAt b 0 (fvals S) := by
 intro j v hv
 have hj : j < 160 := by have := (List.getElem?_eq_some_iff.1 hv).1; rwa [fvals_len] at this
 have := fvals_get S (j / 5) (j % 5) (by omega) (by omega);rw [show j / 5 * 5 + j % 5 = j by omega, hv] at this;rw [Nat.zero_add, h.fcell (p := j / 5) (k := j % 5) (by omega) (by omega) (by omega)];exact this.symm
theorem files_index (S : FS) (p : Nat) (hp : p < 32) (W : World) : (Instr.index 103 (.agg (fvals S).toArray) (.int .i64 p)).run Tryz.prog W = .ok (.agg (S.f p).row) W := by
 have h1 : (fvals S).toArray.extract (p * 5) (p * 5 + 5) = (S.f p).row := by
  apply Array.ext
  ·simp [fvals_len]; omega
  ·intro i h1 h2
   have hi : i < 5 := by simpa using h2
   have := fvals_get S p i hp hi;rw [Array.getElem_extract];obtain ⟨hl, he⟩ := List.getElem?_eq_some_iff.1 this;rw [List.getElem_toArray, he]
   obtain rfl | rfl | rfl | rfl | rfl : i = 0 ∨ i = 1 ∨ i = 2 ∨ i = 3 ∨ i = 4 := by omega
   all_goals rfl
 have hs : (sizeOf 102).run Tryz.prog W = .ok 5 W := by kernel_rfl
 have ha : (isAgg 102).run Tryz.prog W = .ok true W := by kernel_rfl
 have hi : 0 ≤ (p : Int) ∧ (p : Int) < (32 : Nat) := by omega
 simp only [Instr.index, Sem.run_bind, asIntOf, Sem.run_pure, Result.andThen_ok, run_underlying Tryz.underlying103, if_pos hi, hs, part, ha, if_true, Int.toNat_natCast, h1]
theorem freePlace_at (b : Nat) (S : FS) (w : World) (h : FdAt w b S) :
  Calls Tryz.prog 134 #[.pointer (some ⟨b, 0, none⟩)] w fun e w' => e = .returned (.int .i64 (plOf S)) ∧ Below w.heap.size w w' := by
 have HL : Hid _ := h.range;have hne := ptr_eq b;clear h
 go_enter Tryz.func134, Tryz.ntmps134
 go_wp2_with (first | (refine wpList_load_mid rfl 103 _ rfl b 0 rfl (fvals S) _ HL.out Tryz.underlying103 rfl (by kernel_rfl) ?_) | go_in)
 clear HL
 go_loopw [9] (fun s wr => ∃ (k : Nat), k ≤ 32 ∧ s = .int .i64 k ∧ (∀ i, i < k → (S.f i).refs ≠ 0) ∧ Below w.heap.size w wr) (fun s _ => 32 - (intOf s).toNat)
 case atStart => exact ⟨0, by omega, rfl, fun i hi => by omega, Below.refl _ _⟩
 case round =>
  obtain ⟨k, hk, rfl, hno, hB⟩ := hrel;have HB := hid hB
  by_cases hlt : k < 32
  ·have hix := files_index S k hlt
   have HN := hid hno;have i1 : decide ((k : Int) < 32) = true := decide_eq_true (by omega);have hsz := hB.size
   by_cases h0 : (S.f k).refs = 0
   ·have HF : Hid (plOf S = (k : Int)) := low_yes hlt (by simpa using h0) (fun j hj => by simpa using HN.out j hj)
    unfold Fl.row at hix;rw [h0] at hix;clear hno hB h0;go_wp2;go_ret;exact ⟨by rw [HF.out]; rfl, HB.out.alloc hsz _⟩
   ·have HF := hid h0
    have g2 : ((S.f k).refs == 0) = false := beq_false_of_ne h0;unfold Fl.row at hix;clear hno hB h0;go_wp2;go_roundw
    case rel =>
     refine ⟨k + 1, by omega, by go_num, fun i hi => ?_, HB.out.alloc hsz _⟩
     rcases Nat.lt_or_ge i k with q1 | q1
     ·exact HN.out i q1
     ·have : i = k := by omega
      rw [this];exact HF.out
    case measure => simp [intOf]; omega
  ·have HF : Hid (plOf S = -1) := low_no (fun j hj => by simpa using hno j (by omega))
   clear hno hB
   obtain rfl : k = 32 := by omega
   go_wp2;go_ret;exact ⟨by rw [HF.out]; rfl, HB.out⟩
end Fd
namespace Ow
end Ow
namespace Fd
open Ow
def zc : Array Value := (fvals FS.zero ++ List.replicate 48 (Value.int .i64 0)).toArray
theorem zc_lit : Tryz.zeroCells109 = zc := by kernel_rfl
theorem fd_new (w : World) : FdAt (w.alloc (.cells zc 109)) w.heap.size FS.zero := by
 refine ⟨⟨zc, heap_alloc_new _ _, by simp [zc, fvals_len], fun p hp k hk => ?_, fun i hi => ?_⟩⟩
 ·have := fvals_get FS.zero p k hp hk
  unfold zc;rw [List.getElem?_toArray, List.getElem?_append_left (by rw [fvals_len]; omega)];exact this
 ·unfold zc
  rw [List.getElem?_toArray, List.getElem?_append_right (by rw [fvals_len]; omega), fvals_len, List.getElem?_replicate, if_pos (by omega)]
  rfl
theorem new_at (w : World) :
  Calls Tryz.prog 61 #[] w fun e w' => e = .returned (.pointer (some ⟨w.heap.size, 0, none⟩)) ∧ FdAt w' w.heap.size FS.zero ∧ Below w.heap.size w w' ∧ w'.heap.size = w.heap.size + 1 := by
 have h1 := fd_new w;rw [← zc_lit] at h1;have HH : Hid _ := h1;clear h1
 go_enter Tryz.func61, Tryz.ntmps61
 go_wp2;go_ret;exact ⟨rfl, HH.out, below_alloc _ _, by simp⟩
abbrev nor : Array Value := #[.int .i64 0, .int .i64 0, .int .i64 0, .bool false, .int .i64 0]
abbrev lay5 (w : World) (g o : Nat) (x : Fl) : World := ((((w.setCell ⟨g, o, none⟩ (.int .i64 x.kind)).setCell ⟨g, o + 1, none⟩ (.int .i64 x.id)).setCell ⟨g, o + 2, none⟩ (.int .i64 x.off)).setCell ⟨g, o + 3, none⟩ (.bool x.app)).setCell ⟨g, o + 4, none⟩ (.int .i64 x.refs)
theorem below5 {B g : Nat} {a w : World} (h : Below B a w) (hg : B ≤ g) (x : Fl) : Below B a (lay5 w g 0 x) :=
 ((((h.setCell (p := ⟨g, 0, none⟩) hg _).setCell (p := ⟨g, 1, none⟩) hg _).setCell (p := ⟨g, 2, none⟩) hg _).setCell (p := ⟨g, 3, none⟩) hg _).setCell (p := ⟨g, 4, none⟩) hg _
theorem upd5 (g o : Nat) (w : World) (x : Fl) : Upd g w (lay5 w g o x) :=
 ((((Upd.setCell g o w _).trans (Upd.setCell g (o + 1) _ _)).trans (Upd.setCell g (o + 2) _ _)).trans (Upd.setCell g (o + 3) _ _)).trans (Upd.setCell g (o + 4) _ _)
theorem get_at (b : Nat) (S : FS) (n k : Int) (w : World) (h : FdAt w b S) (hI : Inv S) :
  Calls Tryz.prog 148 #[.pointer (some ⟨b, 0, none⟩), .int .i64 n, .int .i64 k] w fun e w' => e = .returned (.tuple #[.agg (getX S n k).row, .int .i64 (getE S n k)]) ∧ Below w.heap.size w w' := by
 obtain ⟨W, hW⟩ : ∃ W, W = w.alloc (.cells nor 102) := ⟨_, rfl⟩
 have hbW : Below w.heap.size w W := by rw [hW]; exact below_alloc _ _
 have h1 := h.below hbW;have HBW := hid hbW;have hne := fptr_eq b
 by_cases hn : nm S n k = 0
 ·have hF := file_no b S n k W h1 hn
  have HE : Hid (getE S n k = 9) := by show _ = _; unfold getE; rw [if_pos hn]
  have HX : Hid (getX S n k = Fl.no) := by show _ = _; unfold getX; rw [if_pos hn]
  have HW : Hid _ := hW;clear h h1 hbW hn hW
  go_enter Tryz.func148, Tryz.ntmps148
  go_wp2_with fail
  rw [← Hid.out HW];refine hF.mono ?_;rintro e w1 ⟨rfl, hw⟩;rw [hw];clear hw w1 hF;rw [Hid.out HW];go_wp2;refine bodyPost_ret (v := .tuple #[.agg nor, .int .i64 9]) ?_ rfl ⟨by rw [HE.out, HX.out]; rfl, ?_⟩
  ·rw [results_cell_tmp rfl]; go_simp
  ·exact below_alloc _ _
 ·obtain ⟨m, j, rfl, rfl, hm, hj, h2, h3⟩ := nm_yes hn
  obtain ⟨h4, h5, h6⟩ := hI.pos (k := m * 6 + j) (by omega) h3;obtain ⟨p, hp⟩ : ∃ p, S.t (m * 6 + j) = p + 1 := ⟨S.t (m * 6 + j) - 1, by omega⟩;have hF := file_yes b S m j p W h1 hm hj hp (by omega)
  have HE : Hid (getE S ((m : Int) + 1) j = 0) := by show _ = _; unfold getE; rw [if_neg hn]
  have HX : Hid (getX S ((m : Int) + 1) j = S.f p) := by show _ = _; unfold getX; rw [if_neg hn, h2, hp]; rfl
  obtain ⟨c0, c1, c2, c3, c4⟩ := h1.drew.cells (p := p) (by omega);have hbl := h1.lt;have hbl0 := h.lt
  have hnb : w.heap.size ≠ b := by omega
  have hWn : W.drew.heap[w.heap.size]? = some (.cells nor 102) := by rw [hW]; exact heap_alloc_new _ _
  have HWN := hid hWn
  have z0 : W.drew.cell? ⟨w.heap.size, 0, none⟩ = some (.int .i64 0) := by rw [cell_of_heap hWn]; rfl
  have z1 : W.drew.cell? ⟨w.heap.size, 1, none⟩ = some (.int .i64 0) := by rw [cell_of_heap hWn]; rfl
  have z2 : W.drew.cell? ⟨w.heap.size, 2, none⟩ = some (.int .i64 0) := by rw [cell_of_heap hWn]; rfl
  have z3 : W.drew.cell? ⟨w.heap.size, 3, none⟩ = some (.bool false) := by rw [cell_of_heap hWn]; rfl
  have z4 : W.drew.cell? ⟨w.heap.size, 4, none⟩ = some (.int .i64 0) := by rw [cell_of_heap hWn]; rfl
  have zf : ∀ o, W.drew.frozen? ⟨w.heap.size, o, none⟩ = false := fun o => frozen_of_heap hWn
  have hws : W.heap.size = w.heap.size + 1 := by rw [hW]; simp
  have HW : Hid _ := hW;clear h h1 hbW hn hW h2 h3 h4 h5 h6 hp hWn hws
  go_enter Tryz.func148, Tryz.ntmps148
  go_wp2_with fail
  rw [← Hid.out HW];refine hF.mono ?_;rintro e w1 ⟨rfl, hw⟩;rw [hw];clear hw w1 hF HW;have HBV : Hid (Below w.heap.size w W.drew) := HBW.out.drew;generalize W.drew = V at *;go_wp2;refine bodyPost_ret (v := .tuple #[.agg (S.f p).row, .int .i64 0]) ?_ rfl ⟨by rw [HE.out, HX.out], ?_⟩
  ·rw [results_cell_tmp rfl]; go_simp
  ·exact below5 HBV.out (Nat.le_refl _) _
theorem leftA_at (b : Nat) (S : FS) (n : Int) (w : World) (h : FdAt w b S) :
  Calls Tryz.prog 212 #[.pointer (some ⟨b, 0, none⟩), .int .i64 n] w fun e w' => e = .returned (.int .i64 (leftA S n)) ∧ w' = w := by
 cases hp : isP n with
 | false =>
  have hF := table_no b n w hp
  have HE : Hid (leftA S n = 0) := by show _ = _; unfold leftA; rw [hp]; rfl
  clear h hp
  go_enter Tryz.func212, Tryz.ntmps212
  go_wp2_with (go_at_call 132; refine hF.mono ?_; rintro e w1 ⟨rfl, hw⟩; rw [hw]; clear hw w1)
  go_ret;exact ⟨by rw [HE.out]; rfl, rfl⟩
 | true =>
  obtain ⟨m, rfl, hm⟩ := isP_nat hp;have hF := table_at b m w hm;have hL := left_at b S m w h hm;have hne := tptr_eq b (160 + m * 6)
  have HE : Hid (leftA S ((m : Int) + 1) = (leftTo S m 6 : Nat)) := by show _ = _; unfold leftA; rw [hp, show ((m : Int) + 1 - 1).toNat = m by omega]; rfl
  clear h hp;generalize leftTo S m 6 = r at *
  go_enter Tryz.func212, Tryz.ntmps212
  go_wp2_with (first | (go_at_call 132; refine hF.mono ?_; rintro e w1 ⟨rfl, hw⟩; rw [hw]; clear hw w1) | (go_at_call 264; refine hL.mono ?_; rintro e w1 ⟨rfl, hw⟩; rw [hw]; clear hw w1))
  go_ret;exact ⟨by rw [HE.out]; rfl, rfl⟩
end Fd
namespace Ow
end Ow
namespace Fd
open Ow
theorem updOf {b : Nat} {w w1 w2 : World} (h : Below w.heap.size w w1) (hu : Upd b w1 w2) : Upd b w w2 := (Upd.of_below h).trans hu
theorem open_at (b : Nat) (S : FS) (n : Int) (x : Fl) (w : World) (h : FdAt w b S) :
  Calls Tryz.prog 72 #[.pointer (some ⟨b, 0, none⟩), .int .i64 n, .agg x.row] w fun e w' => e = .returned (.tuple #[.int .i64 (openA S n), .int .i64 (openE S n)]) ∧ FdAt w' b (openT S n x) ∧ Upd b w w' := by
 obtain ⟨W, hW⟩ : ∃ W, W = w.alloc (.cells x.row 102) := ⟨_, rfl⟩
 have hbW : Below w.heap.size w W := by rw [hW]; exact below_alloc _ _
 have h1 := h.below hbW;have HBW := hid hbW
 cases hp : isP n with
 | false =>
  have hF := table_no b n W hp
  have HO : Hid (openOk S n = false) := by show _ = _; unfold openOk; rw [hp]; rfl
  have HE : Hid (openE S n = 9) := by show _ = _; unfold openE; rw [hp]; rfl
  have HA : Hid (openA S n = 0) := by show _ = _; unfold openA; rw [HO.out]; rfl
  have HT : Hid (openT S n x = S) := by show _ = _; unfold openT; rw [HO.out]; rfl
  have HH := hid h1;have HW : Hid _ := hW;clear h h1 hbW hp hW
  go_enter Tryz.func72, Tryz.ntmps72
  go_wp2_with fail
  rw [← Hid.out HW];refine hF.mono ?_;rintro e w1 ⟨rfl, hw⟩;rw [hw];clear hw w1 hF;go_wp2
  go_ret2
  exact ⟨by rw [HA.out, HE.out]; rfl, by rw [HT.out]; exact HH.out, Upd.of_below HBW.out⟩
 | true =>
  obtain ⟨m, rfl, hm⟩ := isP_nat hp;have hF := table_at b m W hm;have hne := tptr_eq b (160 + m * 6);have hL := lowestFree_at b S m W h1 hm
  have em : ((m : Int) + 1 - 1).toNat = m := by omega
  have HE : Hid (openE S ((m : Int) + 1) = if openOk S ((m : Int) + 1) then 0 else 24) := by show _ = _; unfold openE; rw [hp]; rfl
  have HA : Hid (openA S ((m : Int) + 1) = if openOk S ((m : Int) + 1) then fdOf S m else 0) := by show _ = _; unfold openA; rw [em]
  have HT : Hid (openT S ((m : Int) + 1) x = if openOk S ((m : Int) + 1) then (S.setF (plOf S).toNat (x.re 1)).setT (key ((m : Int) + 1) (fdOf S m)) ((plOf S).toNat + 1) else S) := by show _ = _; unfold openT; rw [em]
  have HO : Hid (openOk S ((m : Int) + 1) = (decide (0 ≤ fdOf S m) && decide (0 ≤ plOf S))) := by show _ = _; unfold openOk; rw [hp, em]; rfl
  have HH := hid h1;have HW : Hid _ := hW
  have hXW : W.heap[w.heap.size]? = some (.cells x.row 102) := by rw [hW]; exact heap_alloc_new _ _
  have HXW := hid hXW;have hbl := h.lt
  have hnb : w.heap.size ≠ b := by omega
  clear h h1 hbW hp hW em hXW
  rcases low_spec (fun i => S.t (m * 6 + i) == 0) 6 with ⟨d, hd, q1, q2, q3⟩ | ⟨q1, q2⟩
  ·have q3' : fdOf S m = (d : Int) := q3
   rcases low_spec (fun p => (S.f p).refs == 0) 32 with ⟨p, hp, r1, r2, r3⟩ | ⟨r1, r2⟩
   ·have r3' : plOf S = (p : Int) := r3
    have HO2 : Hid (openOk S ((m : Int) + 1) = true) := by show _ = _; rw [HO.out, q3', r3']; simp
    have HE2 : Hid (openE S ((m : Int) + 1) = 0) := by show _ = _; rw [HE.out, HO2.out]; rfl
    have HA2 : Hid (openA S ((m : Int) + 1) = d) := by show _ = _; rw [HA.out, HO2.out, q3']; rfl
    have HT2 : Hid (openT S ((m : Int) + 1) x = (S.setF p (x.re 1)).setT (m * 6 + d) (p + 1)) := by show _ = _; rw [HT.out, HO2.out, q3', r3', key_of]; rfl
    rw [q3'] at hL
    have hPl := fun V hV => freePlace_at b S V hV
    rw [r3'] at hPl;clear HE HA HT HO HO2 q1 q2 q3 q3' r1 r2 r3 r3'
    have hdi : (d : Int) < 6 := by omega
    have hpi : (p : Int) < 32 := by omega
    have gd : decide ((d : Int) < 0) = false := decide_eq_false (by omega);have gp : decide ((p : Int) < 0) = false := decide_eq_false (by omega)
    go_enter Tryz.func72, Tryz.ntmps72
    go_wp2_with fail
    rw [← Hid.out HW];refine hF.mono ?_;rintro e w1 ⟨rfl, hw⟩;rw [hw];clear hw w1 hF HW
    go_wp2_with fail
    refine hL.mono ?_;rintro e w1 ⟨rfl, hb1⟩;have hH1 := HH.out.below hb1;have hP1 := hPl w1 hH1;have HH1 := hid hH1;have HB1 : Hid (Below w.heap.size w w1) := HBW.out.trans (hb1.mono HBW.out.size);have HX1 : Hid (w1.heap[w.heap.size]? = some (.cells x.row 102)) := (hb1.block _ (lt_of_heap HXW.out)).trans HXW.out;clear hL hb1 hH1 hPl HBW HXW HH
    go_wp2_with fail
    refine hP1.mono ?_;rintro e w2 ⟨rfl, hb2⟩;have hH2 := HH1.out.below hb2;have hX2 : w2.heap[w.heap.size]? = some (.cells x.row 102) := (hb2.block _ (lt_of_heap HX1.out)).trans HX1.out;have hB2 : Below w.heap.size w w2 := HB1.out.trans (hb2.mono HB1.out.size)
    have x0 : w2.cell? ⟨w.heap.size, 0, none⟩ = some (.int .i64 x.kind) := by rw [cell_of_heap hX2]; rfl
    have x1 : w2.cell? ⟨w.heap.size, 1, none⟩ = some (.int .i64 x.id) := by rw [cell_of_heap hX2]; rfl
    have x2 : w2.cell? ⟨w.heap.size, 2, none⟩ = some (.int .i64 x.off) := by rw [cell_of_heap hX2]; rfl
    have x3 : w2.cell? ⟨w.heap.size, 3, none⟩ = some (.bool x.app) := by rw [cell_of_heap hX2]; rfl
    have x4 : w2.cell? ⟨w.heap.size, 4, none⟩ = some (.int .i64 x.refs) := by rw [cell_of_heap hX2]; rfl
    have xf : w2.frozen? ⟨w.heap.size, 4, none⟩ = false := frozen_of_heap hX2;obtain ⟨c0, c1, c2, c3, c4⟩ := hH2.cells hp;have f0 := hH2.free (p * 5);have f1 := hH2.free (p * 5 + 1);have f2 := hH2.free (p * 5 + 2);have f3 := hH2.free (p * 5 + 3);have f4 := hH2.free (p * 5 + 4);have ct := hH2.tcell (i := m * 6 + d) (o := 160 + m * 6 + d) (by omega) (by omega);have ft := hH2.free (160 + m * 6 + d);have HH2 := hid hH2;have HB2 := hid hB2;clear hP1 hb2 hH2 hX2 hB2 HX1 HB1 HH1
    have ho : ∀ i, i < 5 → p * 5 + i ≠ 160 + m * 6 + d := by intro i hi; omega
    have o0 := ho 0 (by omega);have o1 := ho 1 (by omega);have o2 := ho 2 (by omega);have o3 := ho 3 (by omega);have o4 := ho 4 (by omega);rw [Nat.add_zero] at o0;clear ho
    go_wp2_with fail
    go_region
    all_goals
     go_wp2
     go_ret2
     have hK : FdAt (w2.setCell ⟨w.heap.size, 4, none⟩ (.int .i64 1)) b S := HH2.out.keep (Below.heap_setCell _ _ _ _ (Ne.symm hnb));have hBk : Below w.heap.size w (w2.setCell ⟨w.heap.size, 4, none⟩ (.int .i64 1)) := HB2.out.setCell (p := ⟨w.heap.size, 4, none⟩) (Nat.le_refl _) _;refine ⟨by rw [HA2.out, HE2.out]; rfl, ?_, ?_⟩
     ·rw [HT2.out]
      exact ((hK.put5 hp (x.re 1)).setT (i := m * 6 + d) (o := 160 + m * 6 + d) (by omega) (by omega) (p + 1)).drew
     ·exact ((updOf hBk (upd5 b (p * 5) _ (x.re 1))).trans (Upd.setCell b (160 + m * 6 + d) _ _)).trans (Upd.drew _ _)
   ·have r3' : plOf S = -1 := r2
    have HO2 : Hid (openOk S ((m : Int) + 1) = false) := by show _ = _; rw [HO.out, r3']; simp
    have HE2 : Hid (openE S ((m : Int) + 1) = 24) := by show _ = _; rw [HE.out, HO2.out]; rfl
    have HA2 : Hid (openA S ((m : Int) + 1) = 0) := by show _ = _; rw [HA.out, HO2.out]; rfl
    have HT2 : Hid (openT S ((m : Int) + 1) x = S) := by show _ = _; rw [HT.out, HO2.out]; rfl
    rw [q3'] at hL
    have hPl := fun V hV => freePlace_at b S V hV
    rw [r3'] at hPl;clear HE HA HT HO HO2 q1 q2 q3 q3' r1 r2 r3';have gd : decide ((d : Int) < 0) = false := decide_eq_false (by omega)
    go_enter Tryz.func72, Tryz.ntmps72
    go_wp2_with fail
    rw [← Hid.out HW];refine hF.mono ?_;rintro e w1 ⟨rfl, hw⟩;rw [hw];clear hw w1 hF HW
    go_wp2_with fail
    refine hL.mono ?_;rintro e w1 ⟨rfl, hb1⟩;have hH1 := HH.out.below hb1;have hP1 := hPl w1 hH1;have HH1 := hid hH1;have HB1 : Hid (Below w.heap.size w w1) := HBW.out.trans (hb1.mono HBW.out.size);clear hL hb1 hH1 hPl HBW HXW HH
    go_wp2_with fail
    refine hP1.mono ?_;rintro e w2 ⟨rfl, hb2⟩;have HH2 : Hid (FdAt w2 b S) := HH1.out.below hb2;have HB2 : Hid (Below w.heap.size w w2) := HB1.out.trans (hb2.mono HB1.out.size);clear hP1 hb2 HB1 HH1;go_wp2
    go_ret2
    exact ⟨by rw [HA2.out, HE2.out]; rfl, by rw [HT2.out]; exact HH2.out, Upd.of_below HB2.out⟩
  ·have q3' : fdOf S m = -1 := q2
   have HO2 : Hid (openOk S ((m : Int) + 1) = false) := by show _ = _; rw [HO.out, q3']; simp
   have HE2 : Hid (openE S ((m : Int) + 1) = 24) := by show _ = _; rw [HE.out, HO2.out]; rfl
   have HA2 : Hid (openA S ((m : Int) + 1) = 0) := by show _ = _; rw [HA.out, HO2.out]; rfl
   have HT2 : Hid (openT S ((m : Int) + 1) x = S) := by show _ = _; rw [HT.out, HO2.out]; rfl
   rw [q3'] at hL
   have hPl := fun V hV => freePlace_at b S V hV
   generalize plOf S = pl at hPl;clear HE HA HT HO HO2 q1 q2 q3'
   go_enter Tryz.func72, Tryz.ntmps72
   go_wp2_with fail
   rw [← Hid.out HW];refine hF.mono ?_;rintro e w1 ⟨rfl, hw⟩;rw [hw];clear hw w1 hF HW
   go_wp2_with fail
   refine hL.mono ?_;rintro e w1 ⟨rfl, hb1⟩;have hH1 := HH.out.below hb1;have hP1 := hPl w1 hH1;have HH1 := hid hH1;have HB1 : Hid (Below w.heap.size w w1) := HBW.out.trans (hb1.mono HBW.out.size);clear hL hb1 hH1 hPl HBW HXW HH
   go_wp2_with fail
   refine hP1.mono ?_;rintro e w2 ⟨rfl, hb2⟩;have HH2 : Hid (FdAt w2 b S) := HH1.out.below hb2;have HB2 : Hid (Below w.heap.size w w2) := HB1.out.trans (hb2.mono HB1.out.size);clear hP1 hb2 HB1 HH1;go_wp2
   go_ret2
   exact ⟨by rw [HA2.out, HE2.out]; rfl, by rw [HT2.out]; exact HH2.out, Upd.of_below HB2.out⟩
end Fd
end Go.Proofs.YtinaeifpoljfoaaGreatDoor
