/- The reference of package fds as plain data: open files with the descriptors that name them. -/
import Derived.Test.YtkdbmfckfbmbiaaFdI
namespace Go.Proofs.Ytkdbmfckfbmbiaa
open Go.RowKit
set_option linter.unusedVariables false

/-- An open file of the reference: the file, where its descriptors lie, the descriptors (0 to 47). -/
structure En where
  x : Fl
  a : Option Addr
  cap : Nat
  d : List Nat
/-- What is told of it. -/
abbrev Ab := Fl × List Nat
def En.ab (e : En) : Ab := (e.x, e.d)
def hd (p : Ab) : Nat := p.2.headD 0
/-- Is a descriptor this one? -/
def isK (pid fd : Int) (k : Nat) : Bool := ((k / 6 + 1 : Nat) : Int) == pid && ((k % 6 : Nat) : Int) == fd
theorem isK_key {pid fd : Int} {k : Nat} (hk : k < 48) (h : isK pid fd k = true) : isP pid = true ∧ isD fd = true ∧ key pid fd = k := by
  unfold isK at h
  simp only [Bool.and_eq_true, beq_iff_eq] at h
  obtain ⟨h1, h2⟩ := h
  refine ⟨?_, ?_, ?_⟩
  · simp [isP]; omega
  · simp [isD]; omega
  · unfold key; omega
theorem isK_of {pid fd : Int} (hp : isP pid = true) (hd : isD fd = true) (k : Nat) (hk : k < 48) : isK pid fd k = decide (k = key pid fd) := by
  obtain ⟨m, rfl, hm⟩ := isP_nat hp
  obtain ⟨j, rfl, hj⟩ := isD_nat hd
  rw [key_of, Bool.eq_iff_iff]
  unfold isK
  simp only [Bool.and_eq_true, beq_iff_eq, decide_eq_true_eq]
  omega
/-- Where a descriptor's file stands; -1: nowhere. -/
def atL (pid fd : Int) : List (List Nat) → Int
  | [] => -1
  | d :: l => if d.any (isK pid fd) then 0 else if atL pid fd l < 0 then -1 else atL pid fd l + 1
theorem atL_lo (pid fd : Int) : ∀ l, -1 ≤ atL pid fd l ∧ atL pid fd l < (l.length : Int)
  | [] => by simp [atL]
  | d :: l => by
    have := atL_lo pid fd l
    unfold atL
    rw [List.length_cons]
    split
    · omega
    · split
      · omega
      · omega
/-- It stands at i: none ahead has it. -/
theorem atL_at {pid fd : Int} : ∀ {l : List (List Nat)} {i : Nat} {d : List Nat}, l[i]? = some d → d.any (isK pid fd) = true → (∀ j e, j < i → l[j]? = some e → e.any (isK pid fd) = false) → atL pid fd l = i
  | [], i, d, h, _, _ => by simp at h
  | c :: l, 0, d, h, hd, _ => by
    simp at h
    subst h
    unfold atL
    exact if_pos hd
  | c :: l, i + 1, d, h, hd, hn => by
    have h0 := hn 0 c (by omega) rfl
    have ih := atL_at (l := l) (i := i) (d := d) (by simpa using h) hd (fun j e hj he => hn (j + 1) e (by omega) (by simpa using he))
    unfold atL
    rw [if_neg (by simp [h0]), ih, if_neg (by omega)]
    rfl
theorem atL_no {pid fd : Int} : ∀ {l : List (List Nat)}, (∀ d ∈ l, d.any (isK pid fd) = false) → atL pid fd l = -1
  | [], _ => rfl
  | c :: l, h => by
    have h0 := h c List.mem_cons_self
    have ih := atL_no (l := l) (fun d hd => h d (List.mem_cons_of_mem _ hd))
    unfold atL
    rw [if_neg (by simp [h0]), ih, if_pos (by omega)]
/-- The open files of a state, in the order of their lowest descriptors. -/
def refL (S : FS) : List Ab := (ord S.t).map (fun q => (S.f (q - 1), ks S.t q))
theorem refL_len (S : FS) : (refL S).length = (ord S.t).length := by simp [refL]
theorem refL_get {S : FS} {i q : Nat} (h : (ord S.t)[i]? = some q) : (refL S)[i]? = some (S.f (q - 1), ks S.t q) := by simp [refL, h]
theorem ks_any (t : Nat → Nat) (q : Nat) (pid fd : Int) : (ks t q).any (isK pid fd) = (isP pid && isD fd && decide (t (key pid fd) = q)) := by
  rw [Bool.eq_iff_iff]
  simp only [List.any_eq_true, Bool.and_eq_true, decide_eq_true_eq]
  constructor
  · rintro ⟨k, hk, h⟩
    rw [mem_ks] at hk
    obtain ⟨h1, h2, h3⟩ := isK_key hk.1 h
    exact ⟨⟨h1, h2⟩, by rw [h3]; exact hk.2⟩
  · rintro ⟨⟨h1, h2⟩, h3⟩
    have hk := key_lt h1 h2
    exact ⟨key pid fd, (mem_ks _ _ _).2 ⟨hk, h3⟩, by rw [isK_of h1 h2 _ hk]; simp⟩
/-- Where a descriptor's file stands, by the state. -/
def atR (S : FS) (pid fd : Int) : Int := if nm S pid fd = 0 then -1 else ((ord S.t).idxOf (nm S pid fd) : Int)
theorem nm_eq (S : FS) (pid fd : Int) (h : (isP pid && isD fd) = true) : nm S pid fd = S.t (key pid fd) := by
  unfold nm
  rw [if_pos h]
theorem mem_nm {S : FS} {pid fd : Int} (h : nm S pid fd ≠ 0) : nm S pid fd ∈ ord S.t := by
  obtain ⟨m, k, rfl, rfl, hm, hk, h1, h2⟩ := nm_yes h
  rw [h1, mem_ord]
  exact ⟨h2, m * 6 + k, by omega, rfl⟩
theorem at_ref (S : FS) (pid fd : Int) : atL pid fd ((refL S).map Prod.snd) = atR S pid fd := by
  have hmap : (refL S).map Prod.snd = (ord S.t).map (ks S.t) := by
    unfold refL
    rw [List.map_map]
    rfl
  rw [hmap]
  unfold atR
  by_cases h : nm S pid fd = 0
  · rw [if_pos h]
    refine atL_no (fun d hd => ?_)
    rw [List.mem_map] at hd
    obtain ⟨q, hq, rfl⟩ := hd
    rw [mem_ord] at hq
    rw [ks_any]
    cases hv : (isP pid && isD fd) with
    | false => rfl
    | true =>
      rw [nm_eq S pid fd hv] at h
      rw [h]
      simp
      omega
  · rw [if_neg h]
    have hm := mem_nm h
    have hv : (isP pid && isD fd) = true := by
      unfold nm at h
      cases hv : (isP pid && isD fd) with
      | true => rfl
      | false => rw [hv] at h; simp at h
    have hlt := List.idxOf_lt_length_of_mem hm
    have hget : (ord S.t)[(ord S.t).idxOf (nm S pid fd)]? = some (nm S pid fd) := by
      rw [List.getElem?_eq_getElem hlt]
      simp
    refine atL_at (d := ks S.t (nm S pid fd)) (by simp [hget]) (by rw [ks_any, hv, ← nm_eq S pid fd hv]; simp) (fun j e hj he => ?_)
    rw [List.getElem?_map, Option.map_eq_some_iff] at he
    obtain ⟨q, hq, rfl⟩ := he
    rw [ks_any, hv, ← nm_eq S pid fd hv]
    simp only [Bool.true_and, decide_eq_false_iff_not]
    rintro rfl
    have hnd := ord_nodup S.t
    obtain ⟨hl, e⟩ := List.getElem?_eq_some_iff.1 hq
    have hj' := List.idxOf_lt_length_of_mem hm
    have : (ord S.t).idxOf (nm S pid fd) ≤ j := by
      rw [← e]
      exact Nat.le_of_eq (List.Nodup.idxOf_getElem hnd j hl) 
    omega
end Go.Proofs.Ytkdbmfckfbmbiaa
