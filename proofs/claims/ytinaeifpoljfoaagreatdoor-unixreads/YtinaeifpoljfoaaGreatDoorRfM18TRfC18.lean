import Derived.Test.YtinaeifpoljfoaaGreatDoorFdI
import Derived.ChangeKeysEq
set_option linter.all false
set_option maxRecDepth 100000
set_option maxHeartbeats 16000000
namespace Go.Proofs.YtinaeifpoljfoaaGreatDoor
open Go.RowKit
namespace Ow
end Ow
namespace Fd
open Ow
structure En where
 x : Fl
 a : Option Addr
 cap : Nat
 d : List Nat
abbrev Ab := Fl × List Nat
def En.ab (e : En) : Ab := (e.x, e.d)
def hd (p : Ab) : Nat := p.2.headD 0
def isK (pid fd : Int) (k : Nat) : Bool := ((k / 6 + 1 : Nat) : Int) == pid && ((k % 6 : Nat) : Int) == fd
theorem isK_key {pid fd : Int} {k : Nat} (hk : k < 48) (h : isK pid fd k = true) : isP pid = true ∧ isD fd = true ∧ key pid fd = k := by
 unfold isK at h;simp only [Bool.and_eq_true, beq_iff_eq] at h;obtain ⟨h1, h2⟩ := h;refine ⟨?_, ?_, ?_⟩
 ·simp [isP]; omega
 ·simp [isD]; omega
 ·unfold key; omega
theorem isK_of {pid fd : Int} (hp : isP pid = true) (hd : isD fd = true) (k : Nat) (hk : k < 48) : isK pid fd k = decide (k = key pid fd) := by
 obtain ⟨m, rfl, hm⟩ := isP_nat hp;obtain ⟨j, rfl, hj⟩ := isD_nat hd;rw [key_of, Bool.eq_iff_iff];unfold isK;simp only [Bool.and_eq_true, beq_iff_eq, decide_eq_true_eq];omega
def atL (pid fd : Int) : List (List Nat) → Int
 | [] => -1
 | d :: l => if d.any (isK pid fd) then 0 else if atL pid fd l < 0 then -1 else atL pid fd l + 1
theorem atL_at {pid fd : Int} : ∀ {l : List (List Nat)} {i : Nat} {d : List Nat}, l[i]? = some d → d.any (isK pid fd) = true → (∀ j e, j < i → l[j]? = some e → e.any (isK pid fd) = false) → atL pid fd l = i
 | [], i, d, h, _, _ => by simp at h
 | c :: l, 0, d, h, hd, _ => by
  simp at h;subst h;unfold atL;exact if_pos hd
 | c :: l, i + 1, d, h, hd, hn => by
  have h0 := hn 0 c (by omega) rfl;have ih := atL_at (l := l) (i := i) (d := d) (by simpa using h) hd (fun j e hj he => hn (j + 1) e (by omega) (by simpa using he));unfold atL;rw [if_neg (by simp [h0]), ih, if_neg (by omega)]
  rfl
theorem atL_no {pid fd : Int} : ∀ {l : List (List Nat)}, (∀ d ∈ l, d.any (isK pid fd) = false) → atL pid fd l = -1
 | [], _ => rfl
 | c :: l, h => by
  have h0 := h c List.mem_cons_self;have ih := atL_no (l := l) (fun d hd => h d (List.mem_cons_of_mem _ hd));unfold atL;rw [if_neg (by simp [h0]), ih, if_pos (by omega)]
def refL (S : FS) : List Ab := (ord S.t).map (fun q => (S.f (q - 1), ks S.t q))
theorem refL_len (S : FS) : (refL S).length = (ord S.t).length := by simp [refL]
theorem refL_get {S : FS} {i q : Nat} (h : (ord S.t)[i]? = some q) : (refL S)[i]? = some (S.f (q - 1), ks S.t q) := by simp [refL, h]
theorem ks_any (t : Nat → Nat) (q : Nat) (pid fd : Int) : (ks t q).any (isK pid fd) = (isP pid && isD fd && decide (t (key pid fd) = q)) := by
 rw [Bool.eq_iff_iff];simp only [List.any_eq_true, Bool.and_eq_true, decide_eq_true_eq];constructor
 ·rintro ⟨k, hk, h⟩
  rw [mem_ks] at hk;obtain ⟨h1, h2, h3⟩ := isK_key hk.1 h;exact ⟨⟨h1, h2⟩, by rw [h3]; exact hk.2⟩
 ·rintro ⟨⟨h1, h2⟩, h3⟩
  have hk := key_lt h1 h2;exact ⟨key pid fd, (mem_ks _ _ _).2 ⟨hk, h3⟩, by rw [isK_of h1 h2 _ hk]; simp⟩
def atR (S : FS) (pid fd : Int) : Int := if nm S pid fd = 0 then -1 else ((ord S.t).idxOf (nm S pid fd) : Int)
theorem nm_eq (S : FS) (pid fd : Int) (h : (isP pid && isD fd) = true) : nm S pid fd = S.t (key pid fd) := by
 unfold nm;rw [if_pos h]
theorem mem_nm {S : FS} {pid fd : Int} (h : nm S pid fd ≠ 0) : nm S pid fd ∈ ord S.t := by
 obtain ⟨m, k, rfl, rfl, hm, hk, h1, h2⟩ := nm_yes h;rw [h1, mem_ord];exact ⟨h2, m * 6 + k, by omega, rfl⟩
theorem at_ref (S : FS) (pid fd : Int) : atL pid fd ((refL S).map Prod.snd) = atR S pid fd := by
 have hmap : (refL S).map Prod.snd = (ord S.t).map (ks S.t) := by
  unfold refL;rw [List.map_map]
  rfl
 rw [hmap];unfold atR
 by_cases h : nm S pid fd = 0
 ·rw [if_pos h]
  refine atL_no (fun d hd => ?_);rw [List.mem_map] at hd;obtain ⟨q, hq, rfl⟩ := hd;rw [mem_ord] at hq;rw [ks_any]
  cases hv : (isP pid && isD fd) with
  | false => rfl
  | true =>
   rw [nm_eq S pid fd hv] at h;rw [h];simp;omega
 ·rw [if_neg h]
  have hm := mem_nm h
  have hv : (isP pid && isD fd) = true := by
   unfold nm at h
   cases hv : (isP pid && isD fd) with
   | true => rfl
   | false => rw [hv] at h; simp at h
  have hlt := List.idxOf_lt_length_of_mem hm
  have hget : (ord S.t)[(ord S.t).idxOf (nm S pid fd)]? = some (nm S pid fd) := by
   rw [List.getElem?_eq_getElem hlt];simp
  refine atL_at (d := ks S.t (nm S pid fd)) (by simp [hget]) (by rw [ks_any, hv, ← nm_eq S pid fd hv]; simp) (fun j e hj he => ?_);rw [List.getElem?_map, Option.map_eq_some_iff] at he;obtain ⟨q, hq, rfl⟩ := he;rw [ks_any, hv, ← nm_eq S pid fd hv];simp only [Bool.true_and, decide_eq_false_iff_not];rintro rfl;have hnd := ord_nodup S.t;obtain ⟨hl, e⟩ := List.getElem?_eq_some_iff.1 hq;have hj' := List.idxOf_lt_length_of_mem hm
  have : (ord S.t).idxOf (nm S pid fd) ≤ j := by
   rw [← e];exact Nat.le_of_eq (List.Nodup.idxOf_getElem hnd j hl)
  omega
end Fd
namespace Ow
end Ow
namespace Fd
open Ow
def hlt (p q : Ab) : Prop := hd p < hd q
theorem hlt_eq {l m : List Ab} (h1 : l.Pairwise hlt) (h2 : m.Pairwise hlt) (h : ∀ a, a ∈ l ↔ a ∈ m) : l = m := by
 have n1 : l.Nodup := h1.imp (fun {a b} (hab : hd a < hd b) => by rintro rfl; omega);have n2 : m.Nodup := h2.imp (fun {a b} (hab : hd a < hd b) => by rintro rfl; omega);have hp := (List.perm_ext_iff_of_nodup n1 n2).2 h;exact hp.eq_of_pairwise (fun a b _ _ (x : hd a < hd b) (y : hd b < hd a) => by omega) h1 h2
theorem nat_eq {l m : List Nat} (h1 : l.Pairwise (· < ·)) (h2 : m.Pairwise (· < ·)) (h : ∀ a, a ∈ l ↔ a ∈ m) : l = m := by
 have n1 : l.Nodup := h1.imp (fun hab => by omega);have n2 : m.Nodup := h2.imp (fun hab => by omega);have hp := (List.perm_ext_iff_of_nodup n1 n2).2 h;exact hp.eq_of_pairwise (fun a b _ _ h1 h2 => by omega) h1 h2
theorem ks_up (t : Nat → Nat) (q : Nat) : (ks t q).Pairwise (· < ·) := by
 unfold ks;exact List.Pairwise.filter _ List.pairwise_lt_range
def posE (h : Nat) : List En → Nat
 | [] => 0
 | e :: l => if e.d.headD 0 < h then posE h l + 1 else 0
def insE (e : En) (l : List En) : List En := l.take (posE (e.d.headD 0) l) ++ e :: l.drop (posE (e.d.headD 0) l)
theorem posE_le (h : Nat) : ∀ l, posE h l ≤ l.length
 | [] => Nat.le_refl _
 | e :: l => by
  have := posE_le h l;unfold posE
  split
  ·simp; omega
  ·simp
theorem posE_lt {h : Nat} : ∀ {l : List En} {j : Nat} {e : En}, j < posE h l → l[j]? = some e → e.d.headD 0 < h
 | [], j, e, hj, _ => by simp [posE] at hj
 | c :: l, 0, e, hj, he => by
  simp at he;subst he;unfold posE at hj
  split at hj
  ·assumption
  ·omega
 | c :: l, j + 1, e, hj, he => by
  unfold posE at hj
  split at hj
  ·exact posE_lt (l := l) (j := j) (by omega) (by simpa using he)
  ·omega
theorem posE_at {h : Nat} : ∀ {l : List En} {e : En}, l[posE h l]? = some e → ¬ e.d.headD 0 < h
 | [], e, he => by simp at he
 | c :: l, e, he => by
  by_cases hc : c.d.headD 0 < h
  ·have e1 : posE h (c :: l) = posE h l + 1 := if_pos hc
   rw [e1] at he;exact posE_at (l := l) (by simpa using he)
  ·have e1 : posE h (c :: l) = 0 := if_neg hc
   rw [e1] at he;simp at he;subst he;exact hc
theorem mem_insE (e x : En) (l : List En) : x ∈ insE e l ↔ x = e ∨ x ∈ l := by
 unfold insE;rw [List.mem_append, List.mem_cons];constructor
 ·rintro (h | h | h)
  ·exact Or.inr (List.mem_of_mem_take h)
  ·exact Or.inl h
  ·exact Or.inr (List.mem_of_mem_drop h)
 ·rintro (h | h)
  ·exact Or.inr (Or.inl h)
  ·rw [← List.take_append_drop (posE (e.d.headD 0) l) l, List.mem_append] at h
   rcases h with h | h
   ·exact Or.inl h
   ·exact Or.inr (Or.inr h)
def elt (a b : En) : Prop := a.d.headD 0 < b.d.headD 0
theorem insE_sorted {e : En} {l : List En} (h : l.Pairwise elt) (hne : ∀ x ∈ l, x.d.headD 0 ≠ e.d.headD 0) : (insE e l).Pairwise elt := by
 unfold insE;have hs := h;rw [← List.take_append_drop (posE (e.d.headD 0) l) l, List.pairwise_append] at hs;obtain ⟨h1, h2, h3⟩ := hs;rw [List.pairwise_append, List.pairwise_cons]
 have hlo : ∀ x ∈ l.take (posE (e.d.headD 0) l), elt x e := by
  intro x hx;obtain ⟨j, hj⟩ := List.mem_iff_getElem?.1 hx;have hl := (List.getElem?_eq_some_iff.1 hj).1;rw [List.length_take] at hl;rw [List.getElem?_take_of_lt (by omega)] at hj;exact posE_lt (by omega) hj
 have hhi : ∀ x ∈ l.drop (posE (e.d.headD 0) l), elt e x := by
  intro x hx;have hpl := posE_le (e.d.headD 0) l
  obtain ⟨y, hy⟩ : ∃ y, l[posE (e.d.headD 0) l]? = some y := by
   have : 0 < (l.drop (posE (e.d.headD 0) l)).length := List.length_pos_of_mem hx;rw [List.length_drop] at this;exact ⟨_, List.getElem?_eq_getElem (by omega)⟩
  have hy1 := posE_at hy;have hy2 : ¬ y.d.headD 0 = e.d.headD 0 := hne y (List.mem_of_getElem? hy);have hlt := (List.getElem?_eq_some_iff.1 hy).1;rw [List.drop_eq_getElem_cons hlt] at hx h2;rw [List.pairwise_cons] at h2;have hye : l[posE (e.d.headD 0) l] = y := (List.getElem?_eq_some_iff.1 hy).2;rw [hye] at hx h2
  rcases List.mem_cons.1 hx with rfl | hx
  ·show e.d.headD 0 < _
   omega
  ·have := h2.1 x hx
   unfold elt at *;omega
 exact ⟨h1, ⟨hhi, h2⟩, fun a ha b hb => by
   rcases List.mem_cons.1 hb with rfl | hb
   · exact hlo a ha
   · exact h3 a ha b hb⟩
theorem snoc_ind {α : Type} {P : List α → Prop} (h0 : P []) (h1 : ∀ L e, P L → P (L ++ [e])) (L : List α) : P L := by
 have h : ∀ M : List α, P M.reverse := by
  intro M
  induction M with
  | nil => exact h0
  | cons e M ih =>
   rw [List.reverse_cons];exact h1 _ _ ih
 have := h L.reverse
 rwa [List.reverse_reverse] at this
def sortF (L : List En) : List En := L.foldl (fun out e => if e.d = [] then out else insE e out) []
theorem sortF_snoc (L : List En) (e : En) : sortF (L ++ [e]) = if e.d = [] then sortF L else insE e (sortF L) := by
 unfold sortF;rw [List.foldl_append]
 rfl
def Apart (L : List En) : Prop := L.Pairwise (fun a b => a.d ≠ [] → b.d ≠ [] → a.d.headD 0 ≠ b.d.headD 0)
theorem sortF_mem (x : En) : ∀ (L : List En), x ∈ sortF L ↔ x ∈ L ∧ x.d ≠ [] := by
 refine snoc_ind ?_ (fun L e ih => ?_)
 ·simp [sortF]
 ·rw [sortF_snoc]
  split
  ·rename_i he
   rw [ih, List.mem_append, List.mem_singleton];constructor
   ·rintro ⟨h1, h2⟩
    exact ⟨Or.inl h1, h2⟩
   ·rintro ⟨h1 | h1, h2⟩
    ·exact ⟨h1, h2⟩
    ·rw [h1] at h2
     exact absurd he h2
  ·rename_i he
   rw [mem_insE, ih, List.mem_append, List.mem_singleton];constructor
   ·rintro (rfl | ⟨h1, h2⟩)
    ·exact ⟨Or.inr rfl, he⟩
    ·exact ⟨Or.inl h1, h2⟩
   ·rintro ⟨h1 | h1, h2⟩
    ·exact Or.inr ⟨h1, h2⟩
    ·exact Or.inl h1
theorem sortF_sorted : ∀ (L : List En), Apart L → (sortF L).Pairwise elt := by
 refine snoc_ind ?_ (fun L e ih => ?_)
 ·intro _; simp [sortF]
 ·intro hA
  unfold Apart at hA;rw [List.pairwise_append] at hA;obtain ⟨h1, _, h3⟩ := hA;rw [sortF_snoc]
  split
  ·exact ih h1
  ·rename_i he
   refine insE_sorted (ih h1) (fun x hx => ?_);rw [sortF_mem] at hx;exact h3 x hx.1 e (by simp) hx.2 he
theorem sortF_len : ∀ (L : List En), (sortF L).length ≤ L.length := by
 refine snoc_ind ?_ (fun L e ih => ?_)
 ·simp [sortF]
 ·rw [sortF_snoc]
  split
  ·simp; omega
  ·unfold insE
   have := posE_le (e.d.headD 0) (sortF L);simp;omega
def En.fix (e : En) : En := ⟨e.x.re e.d.length, e.a, e.cap, e.d⟩
def sortE (L : List En) : List En := (sortF L).map En.fix
theorem hd_ks {t : Nat → Nat} {q k : Nat} (hk : k < 48) (h : t k = q) (hl : ∀ j, j < k → t j ≠ q) : (ks t q).headD 0 = k := by
 have hm : k ∈ ks t q := (mem_ks _ _ _).2 ⟨hk, h⟩;have hu := ks_up t q
 match hks : ks t q with
 | [] => rw [hks] at hm; simp at hm
 | a :: l =>
  have ha : a ∈ ks t q := by rw [hks]; simp
  rw [mem_ks] at ha;rw [hks] at hm hu;rw [List.pairwise_cons] at hu
  show a = k
  rcases List.mem_cons.1 hm with e | e
  ·exact e.symm
  ·have := hu.1 k e
   exact absurd ha.2 (hl a this)
theorem ordTo_sorted (t : Nat → Nat) : ∀ k, k ≤ 48 → (ordTo t k).Pairwise (fun p q => (ks t p).headD 0 < (ks t q).headD 0) ∧ (∀ q ∈ ordTo t k, (ks t q).headD 0 < k)
 | 0, _ => ⟨List.Pairwise.nil, fun q hq => by simp [ordTo] at hq⟩
 | k + 1, hk => by
  obtain ⟨ih1, ih2⟩ := ordTo_sorted t k (by omega);rw [ordTo_succ]
  split
  ·rename_i h
   have hh : (ks t (t k)).headD 0 = k := hd_ks (by omega) rfl (fun j hj e => h.2 ((mem_ordTo t (t k) k).2 ⟨h.1, j, hj, e⟩));refine ⟨?_, fun q hq => ?_⟩
   ·rw [List.pairwise_append]
    refine ⟨ih1, by simp, fun a ha b hb => ?_⟩;rw [List.mem_singleton] at hb;rw [hb, hh];exact ih2 a ha
   ·rcases List.mem_append.1 hq with hq | hq
    ·have := ih2 q hq
     omega
    ·rw [List.mem_singleton] at hq
     rw [hq, hh];omega
  ·exact ⟨ih1, fun q hq => by have := ih2 q hq; omega⟩
theorem refL_sorted (S : FS) : (refL S).Pairwise hlt := by
 unfold refL;rw [List.pairwise_map];exact (ordTo_sorted S.t 48 (by omega)).1
theorem mem_refL (S : FS) (p : Ab) : p ∈ refL S ↔ ∃ q, q ∈ ord S.t ∧ (S.f (q - 1), ks S.t q) = p := by
 unfold refL;rw [List.mem_map]
theorem sort_ref {L : List En} {S : FS} (hA : Apart L) (h : ∀ p : Ab, (∃ e ∈ L, e.d ≠ [] ∧ (e.x.re e.d.length, e.d) = p) ↔ p ∈ refL S) : (sortE L).map En.ab = refL S := by
 refine hlt_eq ?_ (refL_sorted S) (fun p => ?_)
 ·unfold sortE
  rw [List.pairwise_map, List.pairwise_map];exact (sortF_sorted L hA).imp (fun {a b} hab => hab)
 ·rw [← h p]
  unfold sortE;rw [List.mem_map];constructor
  ·rintro ⟨x, hx, rfl⟩
   rw [List.mem_map] at hx;obtain ⟨e, he, rfl⟩ := hx;rw [sortF_mem] at he;exact ⟨e, he.1, he.2, rfl⟩
  ·rintro ⟨e, h1, h2, rfl⟩
   exact ⟨e.fix, List.mem_map.2 ⟨e, (sortF_mem e L).2 ⟨h1, h2⟩, rfl⟩, rfl⟩
end Fd
namespace Ow
end Ow
namespace Fd
open Ow
theorem nd_inj {l : List Nat} (h : l.Nodup) {i j : Nat} {hi : i < l.length} {hj : j < l.length} (e : l[i] = l[j]) : i = j := by
 have h1 := List.Nodup.idxOf_getElem h i hi;have h2 := List.Nodup.idxOf_getElem h j hj;rw [e, h2] at h1;exact h1.symm
def RL (L : List En) (S : FS) : Prop := L.map En.ab = refL S
theorem RL.len {L : List En} {S : FS} (h : RL L S) : L.length = (ord S.t).length := by
 have := congrArg List.length h
 rwa [List.length_map, refL_len] at this
theorem RL.get {L : List En} {S : FS} (h : RL L S) {i : Nat} {e : En} {q : Nat} (he : L[i]? = some e) (hq : (ord S.t)[i]? = some q) : e.x = S.f (q - 1) ∧ e.d = ks S.t q := by
 have h1 : (L.map En.ab)[i]? = some e.ab := by rw [List.getElem?_map, he]; rfl
 rw [h, refL_get hq] at h1;have h2 := Option.some.inj h1;have h3 := congrArg Prod.fst h2;have h4 := congrArg Prod.snd h2;exact ⟨h3.symm, h4.symm⟩
theorem RL.some {L : List En} {S : FS} (h : RL L S) {i q : Nat} (hq : (ord S.t)[i]? = some q) : ∃ e, L[i]? = some e := by
 have := (List.getElem?_eq_some_iff.1 hq).1;have := h.len;exact ⟨_, List.getElem?_eq_getElem (by omega)⟩
theorem RL.at {L : List En} {S : FS} (h : RL L S) (pid fd : Int) : atL pid fd (L.map En.d) = atR S pid fd := by
 rw [← at_ref, ← h, List.map_map]
 rfl
structure Lay (L : List En) (Q : List Nat) (S : FS) : Prop where
 nd : Q.Nodup
 len : L.length = Q.length
 nz : ∀ q ∈ Q, q ≠ 0
 each : ∀ (i q : Nat) (e : En), Q[i]? = some q → L[i]? = some e → e.d = ks S.t q ∧ (e.d ≠ [] → e.x.re e.d.length = S.f (q - 1))
 all : ∀ k, k < 48 → S.t k ≠ 0 → S.t k ∈ Q
theorem headD_mem {d : List Nat} (h : d ≠ []) : d.headD 0 ∈ d := by
 cases d with
 | nil => exact absurd rfl h
 | cons a l => simp
theorem Lay.apart {L : List En} {Q : List Nat} {S : FS} (h : Lay L Q S) : Apart L := by
 unfold Apart;rw [List.pairwise_iff_getElem];intro i j hi hj hij ha hb e;have hli := h.len;have q1 : Q[i]? = some (Q[i]'(by omega)) := List.getElem?_eq_getElem _;have q2 : Q[j]? = some (Q[j]'(by omega)) := List.getElem?_eq_getElem _;obtain ⟨d1, _⟩ := h.each i _ _ q1 (List.getElem?_eq_getElem hi);obtain ⟨d2, _⟩ := h.each j _ _ q2 (List.getElem?_eq_getElem hj);have m1 := headD_mem ha;have m2 := headD_mem hb;rw [← e] at m2
 have k1 : (L[i]).d.headD 0 ∈ ks S.t (Q[i]'(by omega)) := by rw [← d1]; exact m1
 have k2 : (L[i]).d.headD 0 ∈ ks S.t (Q[j]'(by omega)) := by rw [← d2]; exact m2
 rw [mem_ks] at k1 k2
 have : Q[i]'(by omega) = Q[j]'(by omega) := by rw [← k1.2, ← k2.2]
 have := nd_inj h.nd this;omega
theorem Lay.sort {L : List En} {Q : List Nat} {S : FS} (h : Lay L Q S) : RL (sortE L) S := by
 refine sort_ref h.apart (fun p => ?_);rw [mem_refL];constructor
 ·rintro ⟨e, he, hne, rfl⟩
  obtain ⟨i, hi⟩ := List.mem_iff_getElem?.1 he;have hl := (List.getElem?_eq_some_iff.1 hi).1;have hli := h.len;have q1 : Q[i]? = some (Q[i]'(by omega)) := List.getElem?_eq_getElem _;obtain ⟨d1, x1⟩ := h.each i _ _ q1 hi;have m1 := headD_mem hne;rw [d1, mem_ks] at m1;refine ⟨Q[i]'(by omega), (mem_ord _ _).2 ⟨h.nz _ (List.getElem_mem _), _, m1.1, m1.2⟩, ?_⟩;rw [x1 hne, d1]
 ·rintro ⟨q, hq, rfl⟩
  rw [mem_ord] at hq;obtain ⟨h0, k, hk, e⟩ := hq;have hm := h.all k hk (by omega);rw [e] at hm;obtain ⟨i, hi⟩ := List.mem_iff_getElem?.1 hm;have hl := (List.getElem?_eq_some_iff.1 hi).1;have hli := h.len;have l1 : L[i]? = some (L[i]'(by omega)) := List.getElem?_eq_getElem _;obtain ⟨d1, x1⟩ := h.each i _ _ hi l1
  have hne : (L[i]'(by omega)).d ≠ [] := by
   intro e2;rw [e2] at d1;have : k ∈ ks S.t q := (mem_ks _ _ _).2 ⟨hk, e⟩;rw [← d1] at this;simp at this
  exact ⟨_, List.getElem_mem _, hne, by rw [x1 hne, d1]⟩
theorem re_self {x : Fl} {n : Int} (h : x.refs = n) : x.re n = x := by
 unfold Fl.re;rw [← h]
theorem ref_count {S : FS} (hI : Inv S) {q : Nat} (hq : q ∈ ord S.t) : (S.f (q - 1)).re ((ks S.t q).length : Int) = S.f (q - 1) := by
 rw [mem_ord] at hq;obtain ⟨h0, k, hk, e⟩ := hq;have h1 := hI.pos hk (by omega);rw [e] at h1;have h2 := hI.refs (q - 1) h1.1;rw [show q - 1 + 1 = q by omega] at h2;exact re_self h2
theorem ks_setT (S : FS) (k q : Nat) {r : Nat} (hk : k < 48) (h1 : S.t k ≠ r) (h2 : q ≠ r) : ks (S.setT k q).t r = ks S.t r := by
 refine nat_eq (ks_up _ _) (ks_up _ _) (fun i => ?_);rw [mem_ks, mem_ks]
 by_cases e : i = k
 ·subst e
  rw [FS.setT_same];constructor
  ·rintro ⟨_, h⟩; exact absurd h h2
  ·rintro ⟨_, h⟩; exact absurd h h1
 ·rw [FS.setT_other _ _ _ _ e]
def insN (x : Nat) (d : List Nat) : List Nat := d.filter (fun k => decide (k < x)) ++ x :: d.filter (fun k => decide (x < k))
theorem mem_insN (x k : Nat) (d : List Nat) (hx : x ∉ d) : k ∈ insN x d ↔ k = x ∨ k ∈ d := by
 unfold insN;rw [List.mem_append, List.mem_cons, List.mem_filter, List.mem_filter];simp only [decide_eq_true_eq];constructor
 ·rintro (⟨h, _⟩ | h | ⟨h, _⟩)
  ·exact Or.inr h
  ·exact Or.inl h
  ·exact Or.inr h
 ·rintro (h | h)
  ·exact Or.inr (Or.inl h)
  ·rcases Nat.lt_trichotomy k x with e | e | e
   ·exact Or.inl ⟨h, e⟩
   ·exact Or.inr (Or.inl e)
   ·exact Or.inr (Or.inr ⟨h, e⟩)
theorem insN_up {x : Nat} {d : List Nat} (h : d.Pairwise (· < ·)) : (insN x d).Pairwise (· < ·) := by
 unfold insN;rw [List.pairwise_append, List.pairwise_cons];refine ⟨h.filter _, ⟨fun a ha => ?_, h.filter _⟩, fun a ha b hb => ?_⟩
 ·rw [List.mem_filter] at ha
  simpa using ha.2
 ·rw [List.mem_filter] at ha
  have h1 : a < x := by simpa using ha.2
  rcases List.mem_cons.1 hb with rfl | hb
  ·exact h1
  ·rw [List.mem_filter] at hb
   have h2 : x < b := by simpa using hb.2
   omega
theorem ks_ins (S : FS) {k q : Nat} (hk : k < 48) (h : S.t k ≠ q) : ks (S.setT k q).t q = insN k (ks S.t q) := by
 have hn : k ∉ ks S.t q := fun e => h ((mem_ks _ _ _).1 e).2
 refine nat_eq (ks_up _ _) (insN_up (ks_up _ _)) (fun i => ?_);rw [mem_insN _ _ _ hn, mem_ks, mem_ks]
 by_cases e : i = k
 ·subst e
  rw [FS.setT_same];simp [hk]
 ·rw [FS.setT_other _ _ _ _ e]
  simp [e]
theorem open_ref {L : List En} {S : FS} (h : RL L S) (hI : Inv S) {k p : Nat} {x : Fl} (hk : k < 48) (h0 : S.t k = 0) (hp : p < 32) (hr : (S.f p).refs = 0) (a : Option Addr) (cap : Nat) :
  RL (sortE (L ++ [⟨x, a, cap, [k]⟩])) ((S.setF p (x.re 1)).setT k (p + 1)) := by
 have hno : p + 1 ∉ ord S.t := by
  intro hm;rw [mem_ord] at hm;obtain ⟨_, j, hj, e⟩ := hm;have := hI.pos hj (by omega);rw [e, show p + 1 - 1 = p by omega] at this;omega
 have hkp : ks (S.setT k (p + 1)).t (p + 1) = [k] := by
  rw [ks_ins S hk (by omega)]
  have : ks S.t (p + 1) = [] := by
   rw [List.eq_nil_iff_forall_not_mem];intro j hj;rw [mem_ks] at hj;exact hno ((mem_ord _ _).2 ⟨by omega, j, hj.1, hj.2⟩)
  rw [this]
  rfl
 have ht : ((S.setF p (x.re 1)).setT k (p + 1)).t = (S.setT k (p + 1)).t := rfl;have hll := h.len;refine Lay.sort (Q := ord S.t ++ [p + 1]) ⟨?_, by simp [hll], ?_, ?_, ?_⟩
 ·rw [List.nodup_append]
  refine ⟨ord_nodup _, by simp, fun a ha b hb => ?_⟩;rw [List.mem_singleton] at hb;rintro rfl;exact hno (hb ▸ ha)
 ·intro q hq
  rcases List.mem_append.1 hq with hq | hq
  ·exact ((mem_ord _ _).1 hq).1
  ·rw [List.mem_singleton] at hq
   omega
 ·intro i q e hq he
  rw [ht]
  by_cases hi : i < (ord S.t).length
  ·rw [List.getElem?_append_left hi] at hq
   rw [List.getElem?_append_left (by omega)] at he;obtain ⟨e1, e2⟩ := h.get he hq;have hqm := List.mem_of_getElem? hq
   have hqp : p + 1 ≠ q := fun e => hno (e ▸ hqm)
   have hq0 := ((mem_ord _ _).1 hqm).1;refine ⟨by rw [e2, ks_setT S k (p + 1) hk (by omega) hqp], fun _ => ?_⟩;rw [e1, e2]
   show _ = (S.setF p (x.re 1)).f (q - 1)
   rw [FS.setF_other _ _ _ _ (by omega), ref_count hI hqm]
  ·have hil := (List.getElem?_eq_some_iff.1 hq).1
   simp at hil
   have hi2 : i = (ord S.t).length := by omega
   rw [hi2, List.getElem?_append_right (Nat.le_refl _), Nat.sub_self] at hq;rw [hi2, ← hll, List.getElem?_append_right (Nat.le_refl _), Nat.sub_self] at he;simp at hq he;subst hq he;refine ⟨hkp.symm, fun _ => ?_⟩
   show x.re ((1 : Nat) : Int) = (S.setF p (x.re 1)).f (p + 1 - 1)
   rw [show p + 1 - 1 = p by omega, FS.setF_same]
   rfl
 ·intro j hj hn
  rw [ht] at hn ⊢
  by_cases e : j = k
  ·subst e
   rw [FS.setT_same];simp
  ·rw [FS.setT_other _ _ _ _ e] at hn ⊢
   exact List.mem_append_left _ ((mem_ord _ _).2 ⟨hn, j, hj, rfl⟩)
end Fd
namespace Ow
end Ow
namespace Fd
open Ow
def pr (k : Nat) : List Value := [.int .i64 ((k / 6 + 1 : Nat) : Int), .int .i64 ((k % 6 : Nat) : Int)]
def prs (d : List Nat) : List Value := d.flatMap pr
theorem prs_app (d e : List Nat) : prs (d ++ e) = prs d ++ prs e := by simp [prs]
theorem prs_len : ∀ d : List Nat, (prs d).length = d.length * 2
 | [] => rfl
 | k :: d => by
  have := prs_len d;unfold prs at *;rw [List.flatMap_cons, List.length_append, this];simp [pr];omega
theorem prs_one (d : List Nat) : ∀ u ∈ prs d, u.oneCell' = true := by
 intro u hu;simp only [prs, List.mem_flatMap] at hu;obtain ⟨k, _, hk⟩ := hu;simp [pr] at hk
 rcases hk with rfl | rfl <;> rfl
theorem prs_get : ∀ (d : List Nat) (j k : Nat), d[j]? = some k → (prs d)[j * 2]? = some (.int .i64 ((k / 6 + 1 : Nat) : Int)) ∧ (prs d)[j * 2 + 1]? = some (.int .i64 ((k % 6 : Nat) : Int))
 | [], j, k, h => by simp at h
 | c :: d, 0, k, h => by
  simp at h;subst h;exact ⟨rfl, rfl⟩
 | c :: d, j + 1, k, h => by
  have := prs_get d j k (by simpa using h);have e : prs (c :: d) = pr c ++ prs d := rfl;rw [e, List.getElem?_append_right (by simp [pr]; omega), List.getElem?_append_right (by simp [pr]; omega)];simp only [pr, List.length_cons, List.length_nil];rw [show (j + 1) * 2 - (0 + 1 + 1) = j * 2 by omega, show (j + 1) * 2 + 1 - (0 + 1 + 1) = j * 2 + 1 by omega];exact this
def PRd (w : World) (a : Option Addr) (d : List Nat) : Prop := ∀ (j k : Nat), d[j]? = some k → ∃ g, a = some ⟨g, 0, none⟩ ∧ (∃ cs fr, w.heap[g]? = some (.cells cs 36 fr)) ∧ w.cell? ⟨g, j * 2, none⟩ = some (.int .i64 ((k / 6 + 1 : Nat) : Int)) ∧ w.cell? ⟨g, j * 2 + 1, none⟩ = some (.int .i64 ((k % 6 : Nat) : Int))
theorem PRd.keep {w w' : World} {a : Option Addr} {d : List Nat} (h : PRd w a d) (hk : ∀ (g : Nat) (cs : Array Value) (fr : Nat × Nat), w.heap[g]? = some (.cells cs 36 fr) → w'.heap[g]? = some (.cells cs 36 fr)) : PRd w' a d := by
 intro j k hj;obtain ⟨g, e, ⟨cs, fr, hg⟩, c1, c2⟩ := h j k hj;have hg' := hk g cs fr hg;refine ⟨g, e, ⟨cs, fr, hg'⟩, ?_, ?_⟩
 ·rw [cell_of_heap hg'] ; rw [cell_of_heap hg] at c1; exact c1
 ·rw [cell_of_heap hg'] ; rw [cell_of_heap hg] at c2; exact c2
theorem PRd.of_own {w : World} {B : Nat} {a : Option Addr} {n cap : Nat} {d : List Nat} (h : w.ownsRow B 36 2 (.slice a n cap) d.length (prs d)) : PRd w a d := by
 intro j k hj;have hl := (List.getElem?_eq_some_iff.1 hj).1
 rcases h.2 with ⟨e, e2⟩ | ⟨g, cap', cur, e, _, hh, _, _, _, ht⟩
 ·omega
 ·simp only [Value.slice.injEq] at e
  obtain ⟨rfl, _, _⟩ := e;obtain ⟨h1, h2⟩ := prs_get d j k hj;rw [← ht, List.getElem?_take_of_lt (by omega)] at h1 h2;refine ⟨g, rfl, ⟨cur, _, hh⟩, ?_, ?_⟩
  ·rw [cell_of_heap hh]; simpa using h1
  ·rw [cell_of_heap hh]; simpa using h2
def ec (e : En) : List Value := [.int .i64 e.x.kind, .int .i64 e.x.id, .int .i64 e.x.off, .bool e.x.app, .int .i64 e.x.refs, .slice e.a e.d.length e.cap]
def ecs (L : List En) : List Value := L.flatMap ec
def ecGet (e : En) : Nat → Value
 | 0 => .int .i64 e.x.kind
 | 1 => .int .i64 e.x.id
 | 2 => .int .i64 e.x.off
 | 3 => .bool e.x.app
 | 4 => .int .i64 e.x.refs
 | _ => .slice e.a e.d.length e.cap
theorem ecs_app (L M : List En) : ecs (L ++ M) = ecs L ++ ecs M := by simp [ecs]
theorem ecs_len : ∀ L : List En, (ecs L).length = L.length * 6
 | [] => rfl
 | k :: d => by
  have := ecs_len d;unfold ecs at *;rw [List.flatMap_cons, List.length_append, this];simp [ec];omega
theorem ecs_one (L : List En) : ∀ u ∈ ecs L, u.oneCell' = true := by
 intro u hu;simp only [ecs, List.mem_flatMap] at hu;obtain ⟨k, _, hk⟩ := hu;simp [ec] at hk
 rcases hk with rfl | rfl | rfl | rfl | rfl | rfl <;> rfl
theorem ecs_get : ∀ (L : List En) (j m : Nat) (e : En), L[j]? = some e → m < 6 → (ecs L)[j * 6 + m]? = some (ecGet e m)
 | [], j, m, e, h, _ => by simp at h
 | c :: L, 0, m, e, h, hm => by
  simp at h;subst h;have e1 : ecs (c :: L) = ec c ++ ecs L := rfl;rw [e1, List.getElem?_append_left (by simp [ec]; omega)]
  obtain rfl | rfl | rfl | rfl | rfl | rfl : m = 0 ∨ m = 1 ∨ m = 2 ∨ m = 3 ∨ m = 4 ∨ m = 5 := by omega
  all_goals rfl
 | c :: L, j + 1, m, e, h, hm => by
  have := ecs_get L j m e (by simpa using h) hm;have e1 : ecs (c :: L) = ec c ++ ecs L := rfl;rw [e1, List.getElem?_append_right (by simp [ec]; omega), ← this]
  congr 1
  simp [ec];omega
structure RIs (w : World) (B c : Nat) (v : Value) (L : List En) : Prop where
 head : w.heap[c]? = some (.cells #[v] 130)
 own : w.ownsRow B 133 6 v L.length (ecs L)
 rd : ∀ e ∈ L, PRd w e.a e.d ∧ e.d.length ≤ e.cap
 cB : B ≤ c
section
variable {w w' : World} {B c : Nat} {v : Value} {L : List En}
theorem RIs.lt (h : RIs w B c v L) : c < w.heap.size := lt_of_heap h.head
theorem RIs.keep (h : RIs w B c v L) (hk : ∀ (k : Nat) (cs : Array Value) (t : TypeId) (fr : Nat × Nat), w.heap[k]? = some (.cells cs t fr) → (t = 130 ∨ t = 133 ∨ t = 36) → w'.heap[k]? = some (.cells cs t fr)) : RIs w' B c v L := by
 refine ⟨hk _ _ _ _ h.head (Or.inl rfl), ownsRow_at h.own (fun g hg => ?_), fun m hm => ⟨(h.rd m hm).1.keep (fun k cs fr hh => hk _ _ _ _ hh (Or.inr (Or.inr rfl))), (h.rd m hm).2⟩, h.cB⟩
 obtain ⟨cs, hcs⟩ := own_type h.own hg;rw [hcs];exact hk _ _ _ _ hcs (Or.inr (Or.inl rfl))
theorem RIs.below (h : RIs w B c v L) (hb : Below w.heap.size w w') : RIs w' B c v L := h.keep (fun k cs t fr hk _ => (hb.block k (lt_of_heap hk)).trans hk)
theorem RIs.c0 (h : RIs w B c v L) : w.cell? ⟨c, 0, none⟩ = some v := by rw [cell_of_heap h.head]; rfl
theorem RIs.free (h : RIs w B c v L) : w.frozen? ⟨c, 0, none⟩ = false := frozen_of_heap h.head
theorem RIs.form (h : RIs w B c v L) : ∃ a cap, v = .slice a L.length cap ∧ L.length ≤ cap := by
 obtain ⟨a, cap, rfl⟩ := own_slice h.own;exact ⟨a, cap, rfl, own_cap h.own⟩
theorem RIs.at (h : RIs w B c v L) {j : Nat} {e : En} (he : L[j]? = some e) : ∃ g cap, v = .slice (some ⟨g, 0, none⟩) L.length cap ∧ B ≤ g ∧ (∃ cs, w.heap[g]? = some (.cells cs 133 (0, 0))) ∧ ∀ m, m < 6 → w.cell? ⟨g, j * 6 + m, none⟩ = some (ecGet e m) := by
 have hj : j < L.length := (List.getElem?_eq_some_iff.1 he).1
 rcases h.own.2 with ⟨_, e2⟩ | ⟨g, cap, cur, e2, hB, hh, q1, _, _, q4⟩
 ·omega
 ·refine ⟨g, cap, e2, hB, ⟨cur, hh⟩, fun m hm => ?_⟩
  have h1 := ecs_get L j m e he hm;rw [← q4, List.getElem?_take_of_lt (by omega)] at h1;rw [cell_of_heap hh]
  simpa using h1
end
theorem pairUnder : Tryz.prog.underlying 36 = some (.array 2 3) := by kernel_rfl
theorem intCells' : Tryz.prog.cellsOf 3 = 1 := by kernel_rfl
theorem intPlain' : Tryz.prog.plainKey 3 = true := by kernel_rfl
theorem pair_eqIn (a b x y : Int) (W : World) : (Op.equalIn 10000 36 (.agg #[.int .i64 a, .int .i64 b]) (.agg #[.int .i64 x, .int .i64 y])).run Tryz.prog W = .ok (a == x && b == y) W := by
 have hq : (Tryz.prog.info? 3).isSome = true := by kernel_rfl
 obtain ⟨i0, hi0⟩ := Option.isSome_iff_exists.mp hq;have ep1 : (#[.int .i64 a, .int .i64 b] : Array Value)[0]? = some (.int .i64 a) := rfl;have p1 := run_part_plain (P := Tryz.prog) W intPlain' ep1;have ep2 : (#[.int .i64 a, .int .i64 b] : Array Value)[1]? = some (.int .i64 b) := rfl;have p2 := run_part_plain (P := Tryz.prog) W intPlain' ep2;have ep3 : (#[.int .i64 x, .int .i64 y] : Array Value)[0]? = some (.int .i64 x) := rfl;have p3 := run_part_plain (P := Tryz.prog) W intPlain' ep3;have ep4 : (#[.int .i64 x, .int .i64 y] : Array Value)[1]? = some (.int .i64 y) := rfl;have p4 := run_part_plain (P := Tryz.prog) W intPlain' ep4;have q1 : (Op.equalIn 9999 3 (.int .i64 a) (.int .i64 x)).run Tryz.prog W = .ok (a == x) W := run_equalIn_int (P := Tryz.prog) W 9998 3 .i64 .i64 a x Tryz.underlying3;have q2 : (Op.equalIn 9999 3 (.int .i64 b) (.int .i64 y)).run Tryz.prog W = .ok (b == y) W := run_equalIn_int (P := Tryz.prog) W 9998 3 .i64 .i64 b y Tryz.underlying3;rw [run_equalIn_array W 9999 _ _ pairUnder hi0, intCells']
 show (Op.eqItems 9999 3 1 _ _ [0, 1]).run Tryz.prog W = _
 simp only [Op.eqItems, Nat.mul_one, Nat.zero_mul, Sem.run_bind, p1, p2, p3, p4, Result.andThen_ok, q1, q2];generalize (a == x) = r1
 cases r1 with
 | false => simp
 | true =>
  generalize (b == y) = r2 at *
  cases r2 <;> simp [p2, p4, q2]
theorem pair_eq (a b x y : Int) (W : World) : (binOp .eql 36 (.agg #[.int .i64 a, .int .i64 b]) (.agg #[.int .i64 x, .int .i64 y])).run Tryz.prog W = .ok (.bool (a == x && b == y)) W := by
 have h2 := pair_eqIn a b x y W;generalize (a == x && b == y) = r at *;go_simp
theorem isK_def (pid fd : Int) (k : Nat) : (((k / 6 + 1 : Nat) : Int) == pid && ((k % 6 : Nat) : Int) == fd) = isK pid fd k := rfl
theorem less_at (j k : Nat) (w : World) :
  Calls Tryz.prog 102 #[.agg #[.int .i64 ((j / 6 + 1 : Nat) : Int), .int .i64 ((j % 6 : Nat) : Int)], .agg #[.int .i64 ((k / 6 + 1 : Nat) : Int), .int .i64 ((k % 6 : Nat) : Int)]] w fun e w' => e = .returned (.bool (decide (j < k))) ∧ Below w.heap.size w w' := by
 have hR : decide (j < k) = (decide (((j / 6 + 1 : Nat) : Int) < ((k / 6 + 1 : Nat) : Int)) || (((j / 6 + 1 : Nat) : Int) == ((k / 6 + 1 : Nat) : Int) && decide (((j % 6 : Nat) : Int) < ((k % 6 : Nat) : Int)))) := by
  rw [Bool.eq_iff_iff];simp only [Bool.or_eq_true, Bool.and_eq_true, decide_eq_true_eq, beq_iff_eq];omega
 rw [hR];clear hR;generalize ((j / 6 + 1 : Nat) : Int) = a;generalize ((j % 6 : Nat) : Int) = b;generalize ((k / 6 + 1 : Nat) : Int) = x;generalize ((k % 6 : Nat) : Int) = y
 by_cases h1 : a < x
 ·have g1 : decide (a < x) = true := decide_eq_true h1
  have HR : Hid ((decide (a < x) || (a == x && decide (b < y))) = true) := by show _ = _; rw [g1]; rfl
  go_enter Tryz.func102, Tryz.ntmps102
  go_wp2;go_ret;exact ⟨by first | rfl | (rw [HR.out]; rfl), below_alloc2 _ _ _⟩
 ·have g1 : decide (a < x) = false := decide_eq_false h1
  by_cases h2 : a = x
  ·have g2 : (a == x) = true := by simp [h2]
   have HR : Hid ((decide (a < x) || (a == x && decide (b < y))) = decide (b < y)) := by show _ = _; rw [g1, g2]; rfl
   by_cases h3 : b < y
   ·have g3 : decide (b < y) = true := decide_eq_true h3
    clear h2
    go_enter Tryz.func102, Tryz.ntmps102
    go_wp2;go_ret;exact ⟨by first | rfl | (rw [HR.out, g3]; rfl), below_alloc2 _ _ _⟩
   ·have g3 : decide (b < y) = false := decide_eq_false h3
    clear h2
    go_enter Tryz.func102, Tryz.ntmps102
    go_wp2;go_ret;exact ⟨by first | rfl | (rw [HR.out, g3]; rfl), below_alloc2 _ _ _⟩
  ·have g2 : (a == x) = false := by simp [h2]
   have HR : Hid ((decide (a < x) || (a == x && decide (b < y))) = false) := by show _ = _; rw [g1, g2]; rfl
   go_enter Tryz.func102, Tryz.ntmps102
   go_wp2;go_ret;exact ⟨by first | rfl | (rw [HR.out]; rfl), below_alloc2 _ _ _⟩
theorem rpid_at (n : Int) (w : World) :
  Calls Tryz.prog 106 #[.int .i64 n] w fun e w' => e = .returned (.bool (isP n)) ∧ w' = w := by
 by_cases h0 : 1 ≤ n
 ·have g0 : decide (1 ≤ n) = true := decide_eq_true h0
  have HB : Hid (isP n = decide (n ≤ 8)) := by show _ = _; simp [isP, h0]
  go_enter Tryz.func106, Tryz.ntmps106
  go_wp2
  all_goals
   go_ret;exact ⟨by rw [HB.out]; simp_all, rfl⟩
 ·have g0 : decide (1 ≤ n) = false := decide_eq_false h0
  have HB : Hid (isP n = false) := by show _ = _; simp [isP, h0]
  go_enter Tryz.func106, Tryz.ntmps106
  go_wp2
  all_goals
   go_ret;exact ⟨by rw [HB.out]; rfl, rfl⟩
end Fd
namespace Ow
end Ow
namespace Fd
open Ow
theorem any_take_succ {p : Nat → Bool} {d : List Nat} {j k : Nat} (h : d[j]? = some k) : (d.take (j + 1)).any p = ((d.take j).any p || p k) := by
 obtain ⟨hl, he⟩ := List.getElem?_eq_some_iff.1 h;rw [List.take_succ_eq_append_getElem hl, List.any_append, he];simp
theorem rat_at (B c : Nat) (v : Value) (L : List En) (pid fd : Int) (w : World) (h : RIs w B c v L) (hl : L.length ≤ 1000) (hd : ∀ e ∈ L, e.d.length ≤ 1000) :
  Calls Tryz.prog 104 #[.pointer (some ⟨c, 0, none⟩), .int .i64 pid, .int .i64 fd] w fun e w' => e = .returned (.int .i64 (atL pid fd (L.map En.d))) ∧ w' = w := by
 obtain ⟨av, cv, rfl, hcv⟩ := h.form;have c0 := h.c0;generalize hll : L.length = ll at *;have HLL := hid hll;have HR := hid h;have HD := hid hd;clear h hll hd
 go_enter Tryz.func104, Tryz.ntmps104
 go_wp2
 go_loopw [7] (fun s wr => ∃ (i : Nat), i ≤ ll ∧ s = .int .i64 i ∧ Hid (∀ j e, j < i → L[j]? = some e → e.d.any (isK pid fd) = false) ∧ wr = w) (fun s _ => ll - (intOf s).toNat)
 case atStart => exact ⟨0, by omega, rfl, (show Hid _ from fun j e hj => absurd hj (Nat.not_lt_zero _)), rfl⟩
 case round =>
  obtain ⟨i, hi, rfl, HN, hw⟩ := hrel;subst hw
  by_cases hlt : i < ll
  ·obtain ⟨e, he⟩ : ∃ e, L[i]? = some e := ⟨L[i]'(by rw [HLL.out]; exact hlt), List.getElem?_eq_getElem _⟩
   obtain ⟨g, cap, e1, _, _, hc⟩ := HR.out.at he;simp only [Value.slice.injEq] at e1;obtain ⟨rfl, _, rfl⟩ := e1;have d5 : wr.cell? ⟨g, i * 6 + 5, none⟩ = some (.slice e.a e.d.length e.cap) := hc 5 (by omega);obtain ⟨hrd, hcp⟩ := HR.out.rd e (List.mem_of_getElem? he);have hdl := HD.out e (List.mem_of_getElem? he)
   have hii : (i : Int) < (ll : Int) := by omega
   have i1 : decide ((i : Int) < (ll : Int)) = true := decide_eq_true hii;have HE := hid he;have HRd := hid hrd;clear he hc hrd;generalize hdd : e.d = dd at *;have HDD := hid hdd;generalize e.a = ea at *;generalize e.cap = ecap at *;generalize hdn : dd.length = dn at *;have HDN := hid hdn;clear hdd hdn;go_wp2
   go_loopw [8] (fun s wr' => ∃ (k : Nat), k ≤ dn ∧ s = .int .i64 k ∧ Hid ((dd.take k).any (isK pid fd) = false) ∧ wr' = wr) (fun s _ => dn - (intOf s).toNat)
   case atStart => exact ⟨0, by omega, rfl, (show Hid _ from rfl), rfl⟩
   case round =>
    obtain ⟨k, hk, rfl, HT, hw⟩ := hrel;subst hw
    by_cases hlk : k < dn
    ·obtain ⟨x, hx⟩ : ∃ x, dd[k]? = some x := ⟨dd[k]'(by rw [HDN.out]; exact hlk), List.getElem?_eq_getElem _⟩
     obtain ⟨gd, rfl, _, p0, p1⟩ := HRd.out k x hx
     have hki : (k : Int) < (dn : Int) := by omega
     have hpe := pair_eq ((x / 6 + 1 : Nat) : Int) ((x % 6 : Nat) : Int) pid fd
     have HT2 : Hid ((dd.take (k + 1)).any (isK pid fd) = isK pid fd x) := by show _ = _; rw [any_take_succ hx, HT.out]; rfl
     rw [isK_def] at hpe;generalize ((x / 6 + 1 : Nat) : Int) = xa at *;generalize ((x % 6 : Nat) : Int) = xb at *
     cases hb : isK pid fd x with
     | true =>
      have HA : Hid (atL pid fd (L.map En.d) = i) := by
       refine atL_at (d := dd) (by rw [List.getElem?_map, HE.out]; exact congrArg some HDD.out) ?_ (fun j d hj hjd => ?_)
       ·rw [List.any_eq_true]
        exact ⟨x, List.mem_of_getElem? hx, hb⟩
       ·rw [List.getElem?_map, Option.map_eq_some_iff] at hjd
        obtain ⟨e', he', rfl⟩ := hjd;exact HN.out j e' hj he'
      rw [hb] at hpe;clear hx hb HT HT2 HN;go_wp2;go_ret;exact ⟨by rw [HA.out]; rfl, rfl⟩
     | false =>
      rw [hb] at hpe HT2;clear hx hb HT;go_wp2;go_roundw
      case rel => exact ⟨k + 1, by omega, by go_num, HT2, by first | rfl | trivial⟩
      case measure => simp [intOf]; omega
    ·have HT3 : Hid (∀ j e, j < i + 1 → L[j]? = some e → e.d.any (isK pid fd) = false) := fun j e' hj he' => by
      rcases Nat.lt_or_ge j i with q | q
      ·exact HN.out j e' q he'
      ·have : j = i := by omega
       rw [this, HE.out] at he';have e2 := Option.some.inj he';rw [← e2, HDD.out];have h9 := HT.out
       rwa [List.take_of_length_le (by have := HDN.out; omega)] at h9
     have hkk : decide ((k : Int) < (dn : Int)) = false := decide_eq_false (by omega);clear HT HN;go_wp2;go_roundw
     case rel => exact ⟨i + 1, by omega, by go_num, HT3, by first | rfl | trivial⟩
     case measure => simp [intOf]; omega
  ·obtain rfl : i = ll := by omega
   have HA : Hid (atL pid fd (L.map En.d) = -1) := by
    refine atL_no (fun d hd => ?_);rw [List.mem_map] at hd;obtain ⟨e, he, rfl⟩ := hd;obtain ⟨j, hj⟩ := List.mem_iff_getElem?.1 he;exact HN.out j e (by rw [← HLL.out]; exact (List.getElem?_eq_some_iff.1 hj).1) hj
   go_wp2;go_ret;exact ⟨by rw [HA.out]; rfl, rfl⟩
end Fd
namespace Ow
end Ow
namespace Fd
open Ow
theorem fInfo : (Tryz.prog.info? 133).map (fun i => (i.zero, i.size, i.bytes)) = some (some (.agg #[.int .i64 0, .int .i64 0, .int .i64 0, .bool false, .int .i64 0, .slice none 0 0]), 6, 64) := by kernel_rfl
theorem elemF : Tryz.prog.elem 128 = 133 := by kernel_rfl
def FRd (w : World) (a : Option Addr) (N : List En) : Prop := ∀ i u, (ecs N)[i]? = some u → ∃ g off, a = some ⟨g, off, none⟩ ∧ w.cell? ⟨g, off + i, none⟩ = some u
theorem FRd.below {w w' : World} {a : Option Addr} {N : List En} (h : FRd w a N) (hb : Below w.heap.size w w') : FRd w' a N := by
 intro i u hu;obtain ⟨g, off, e, hc⟩ := h i u hu;exact ⟨g, off, e, (hb.cell (cell_lt hc)).trans hc⟩
theorem FRd.of_own {w : World} {B : Nat} {a : Option Addr} {n cap : Nat} {N : List En} (h : w.ownsRow B 133 6 (.slice a n cap) N.length (ecs N)) : FRd w a N := by
 intro i u hu;have hi := (List.getElem?_eq_some_iff.1 hu).1;rw [ecs_len] at hi
 rcases h.2 with ⟨e, e2⟩ | ⟨g, cap', cur, e, _, hh, _, _, _, ht⟩
 ·omega
 ·simp only [Value.slice.injEq] at e
  obtain ⟨rfl, _, _⟩ := e;rw [← ht, List.getElem?_take_of_lt (by omega)] at hu;exact ⟨g, 0, rfl, by rw [Nat.zero_add, cell_of_heap hh]; simpa using hu⟩
theorem ecs_drop (N : List En) (k : Nat) : ecs (N.drop k) = (ecs N).drop (k * 6) := by
 have h : ecs N = ecs (N.take k) ++ ecs (N.drop k) := by rw [← ecs_app, List.take_append_drop]
 by_cases hk : k ≤ N.length
 ·have hl : (ecs (N.take k)).length = k * 6 := by rw [ecs_len, List.length_take, Nat.min_eq_left hk]
  rw [h, ← hl, List.drop_left]
 ·rw [List.drop_eq_nil_of_le (by omega), List.drop_eq_nil_of_le (by rw [ecs_len]; omega)]
  rfl
theorem ecs_take (N : List En) (k : Nat) : ecs (N.take k) = (ecs N).take (k * 6) := by
 have h : ecs N = ecs (N.take k) ++ ecs (N.drop k) := by rw [← ecs_app, List.take_append_drop]
 by_cases hk : k ≤ N.length
 ·have hl : (ecs (N.take k)).length = k * 6 := by rw [ecs_len, List.length_take, Nat.min_eq_left hk]
  rw [h, ← hl, List.take_left]
 ·rw [List.take_of_length_le (by omega), List.take_of_length_le (by rw [ecs_len]; omega)]
theorem cutF_h (N : List En) (a : Option Addr) (len cap k : Nat) (hl : len = N.length) (hk : k ≤ len) (hcap : len ≤ cap) : ∃ a2 c2, (∀ V, (Instr.slice 128 (.slice a len cap) none (some (.int .i64 (k : Int))) none).run Tryz.prog V = .ok (.slice a2 k c2) V) ∧ (∀ W, FRd W a N → FRd W a2 (N.take k)) := by
 obtain ⟨i0, hi0, hzz⟩ := Option.map_eq_some_iff.1 fInfo;simp only [Prod.mk.injEq] at hzz;refine ⟨a, cap, fun V => ?_, fun W ha => ?_⟩
 ·have hk0 : (k : Int) ≤ (cap : Int) := by omega
  rw [run_slice_h V 128 _ _ _ Tryz.underlying128 _ _ (by omega) hk0]
  cases a <;> simp [sizeOf, typeInfo, elemF, hi0, sliced, hzz.2.1, Addr.add]
 ·intro i u hu
  rw [ecs_take] at hu;have hi := (List.getElem?_eq_some_iff.1 hu).1;rw [List.length_take] at hi;rw [List.getElem?_take_of_lt (by omega)] at hu;exact ha i u hu
theorem cutF_l (N : List En) (a : Option Addr) (len cap k : Nat) (hl : len = N.length) (hk : k ≤ len) (hcap : len ≤ cap) : ∃ a2 c2, (∀ V, (Instr.slice 128 (.slice a len cap) (some (.int .i64 (k : Int))) none none).run Tryz.prog V = .ok (.slice a2 (len - k) c2) V) ∧ (∀ W, FRd W a N → FRd W a2 (N.drop k)) := by
 obtain ⟨i0, hi0, hzz⟩ := Option.map_eq_some_iff.1 fInfo;simp only [Prod.mk.injEq] at hzz;refine ⟨if cap = k then a else a.map (·.add (k * 6)), cap - k, fun V => ?_, fun W ha => ?_⟩
 ·have hk0 : (k : Int) ≤ (len : Int) := by omega
  rw [run_slice_l V 128 _ _ _ Tryz.underlying128 _ _ (by omega) hk0];simp [sizeOf, typeInfo, elemF, hi0, sliced, hzz.2.1]
 ·intro i u hu
  rw [ecs_drop] at hu;have hi := (List.getElem?_eq_some_iff.1 hu).1;rw [List.length_drop, ecs_len] at hi;rw [List.getElem?_drop] at hu;obtain ⟨g, off, e, hc⟩ := ha (k * 6 + i) u hu;refine ⟨g, off + k * 6, ?_, ?_⟩
  ·rw [if_neg (by omega), e]
   simp [Addr.add]
  ·rw [Nat.add_assoc]
   exact hc
theorem appF {w : World} {B : Nat} {u : Value} {M N : List En} (ho : w.ownsRow B 133 6 u M.length (ecs M)) (hB : B ≤ w.heap.size) {a2 : Option Addr} {n2 c2 : Nat} (hn : n2 = N.length) (hr : FRd w a2 N) (hl : M.length + N.length ≤ 1000) :
  ∃ a c w', (∀ ty, (Builtin.append_ #[128, 128] ty #[u, .slice a2 n2 c2]).run Tryz.prog w = .ok (.slice a (M ++ N).length c) w') ∧ w'.ownsRow B 133 6 (.slice a (M ++ N).length c) (M ++ N).length (ecs (M ++ N)) ∧ w.grownBy w' u.ownBlock := by
 obtain ⟨i0, hi0, hzz⟩ := Option.map_eq_some_iff.1 fInfo;simp only [Prod.mk.injEq] at hzz;obtain ⟨hz0, hz1, hz2⟩ := hzz;subst hn
 by_cases h0 : N.length = 0
 ·have hN : N = [] := List.eq_nil_of_length_eq_zero h0
  subst hN;obtain ⟨av, cv, rfl⟩ := own_slice ho;have hle := own_cap ho;refine ⟨av, cv, w, fun ty => ?_, ?_, grown_below _ (Below.refl _ _)⟩
  ·rw [List.append_nil]
   exact run_append_zero w _ _ i0 Tryz.underlying128 hi0 _ _ _ cv _ hle ty
  ·rw [List.append_nil]
   exact ho
 ·have hx : ∃ u0, (ecs N)[0]? = some u0 := ⟨_, List.getElem?_eq_getElem (by rw [ecs_len]; omega)⟩
  obtain ⟨u0, hu0⟩ := hx;obtain ⟨g2, off2, rfl, _⟩ := hr 0 u0 hu0
  obtain ⟨g', cap', w', hr', hown, hgrow, _, _⟩ := run_append_lies (P := Tryz.prog) w 128 0 B 133 i0 _ 6 64 Tryz.underlying128 hi0 hz0 hz1 hz2 rfl (by omega) u M.length (ecs M) ho
   ⟨g2, off2, none⟩ N.length c2 (ecs N) (by rw [ecs_len]) (fun j x hx => by
     obtain ⟨g3, off3, e3, hc⟩ := hr j x hx;simp only [Option.some.injEq, Addr.mk.injEq, and_true] at e3;obtain ⟨rfl, rfl⟩ := e3;rw [add0]
     exact hc) (ecs_one N) (by omega) (by unfold maxLen; omega) (by omega) hB _ rfl
  refine ⟨some ⟨g', 0, none⟩, cap', w', fun ty => ?_, ?_, hgrow⟩
  ·rw [List.length_append]
   exact hr'
  ·rw [List.length_append, ecs_app]
   exact hown
theorem own_F1 {w : World} (B : Nat) (e : En) (hB : B ≤ w.heap.size) : (w.alloc (.cells (ec e).toArray 133)).ownsRow B 133 6 (.slice (some ⟨w.heap.size, 0, none⟩) 1 1) [e].length (ecs [e]) := by
 exact ⟨by rw [ecs_len], Or.inr ⟨w.heap.size, 1, (ec e).toArray, rfl, hB, heap_alloc_new _ _, Nat.le_refl _, by unfold maxLen; omega, by simp [ec], by simp [ecs, ec]⟩⟩
structure RU (B : Nat) (w w' : World) : Prop where
 os : w'.os = w.os
 tape : w'.tape = w.tape
 output : w'.output = w.output
 size : w.heap.size ≤ w'.heap.size
 low : ∀ k, k < B → w'.heap[k]? = w.heap[k]?
 other : ∀ (k : Nat) (cs : Array Value) (t : TypeId) (fr : Nat × Nat), w.heap[k]? = some (.cells cs t fr) → t ≠ 130 → t ≠ 133 → w'.heap[k]? = some (.cells cs t fr)
 mp : ∀ (k : Nat) es cl, w.heap[k]? = some (.map es cl) → w'.heap[k]? = some (.map es cl)
theorem RU.refl (B : Nat) (w : World) : RU B w w := ⟨rfl, rfl, rfl, Nat.le_refl _, fun _ _ => rfl, fun _ _ _ _ h _ _ => h, fun _ _ _ h => h⟩
theorem RU.trans {B : Nat} {a b c : World} (h : RU B a b) (k : RU B b c) : RU B a c :=
 ⟨k.os.trans h.os, k.tape.trans h.tape, k.output.trans h.output, Nat.le_trans h.size k.size, fun i hi => (k.low i hi).trans (h.low i hi), fun i cs t fr hi h1 h2 => k.other i cs t fr (h.other i cs t fr hi h1 h2) h1 h2, fun i es cl hi => k.mp i es cl (h.mp i es cl hi)⟩
theorem RU.of_below {B : Nat} {w w' : World} (h : Below w.heap.size w w') (hB : B ≤ w.heap.size) : RU B w w' :=
 ⟨h.os, h.tape, h.output, h.size, fun k hk => h.block k (by omega), fun k cs t fr hk _ _ => (h.block k (lt_of_heap hk)).trans hk, fun k es cl hk => (h.block k (lt_of_heap hk)).trans hk⟩
theorem RU.cell {B : Nat} {w : World} {g o : Nat} {cs : Array Value} {t : TypeId} {fr : Nat × Nat} (hg : w.heap[g]? = some (.cells cs t fr)) (ht : t = 130 ∨ t = 133) (hB : B ≤ g) (v : Value) : RU B w (w.setCell ⟨g, o, none⟩ v) := by
 refine ⟨rfl, rfl, rfl, by simp [World.setCell], fun k hk => Below.heap_setCell _ _ _ _ (by show k ≠ g; omega), fun k cs' t' fr' hk h1 h2 => ?_, fun k es cl hk => ?_⟩
 ·rw [Below.heap_setCell _ _ _ _ ?_]
  ·exact hk
  ·show k ≠ g
   rintro rfl;rw [hg] at hk;simp only [Option.some.injEq, Obj.cells.injEq] at hk
   rcases ht with e | e
   ·exact h1 (hk.2.1.symm.trans e)
   ·exact h2 (hk.2.1.symm.trans e)
 ·rw [Below.heap_setCell _ _ _ _ ?_]
  ·exact hk
  ·show k ≠ g
   rintro rfl;rw [hg] at hk
   cases hk
theorem RU.upd {B c : Nat} {w w' : World} {v : Value} (h : Upd c w w') (hc : w.heap[c]? = some (.cells #[v] 130)) (hB : B ≤ c) (hs : B ≤ w.heap.size) : RU B w w' := by
 refine ⟨h.os, h.tape, h.output, h.size, fun k hk => h.block k (by omega) (by omega), fun k cs t fr hk h1 _ => (h.block k (lt_of_heap hk) ?_).trans hk, fun k es cl hk => (h.block k (lt_of_heap hk) ?_).trans hk⟩
 ·rintro rfl
  rw [hc] at hk;simp only [Option.some.injEq, Obj.cells.injEq] at hk;exact h1 hk.2.1.symm
 ·rintro rfl
  rw [hc] at hk
  cases hk
end Fd
end Go.Proofs.YtinaeifpoljfoaaGreatDoor
