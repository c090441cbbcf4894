import Derived.Test.YtinaeifpoljfoaaGreatDoorOwnR
import Derived.Laws.BitsAllLaws
import Derived.Deep.RegionWith
import Derived.Lib.MinMax
set_option linter.all false
set_option maxRecDepth 100000
set_option maxHeartbeats 16000000
namespace Go.Proofs.YtinaeifpoljfoaaGreatDoor
open Go.RowKit
namespace Ow
end Ow
namespace Sg
open Ow
def dfl : Int := 18446744073709551615
def ign : Int := 18446744073709551614
structure Sg where
 h : List Int
 q : Nat
 k : Option (Int × List Int)
def Sg.pc (p : Sg) : Int := (p.k.getD (0, [])).1
def Sg.st (p : Sg) : List Int := (p.k.getD (0, [])).2
def Sg.first : Sg := ⟨List.replicate 15 dfl, 0, none⟩
abbrev SS := Nat → Sg
def SS.first : SS := fun _ => Sg.first
def SS.set (S : SS) (i : Nat) (p : Sg) : SS := fun k => if k = i then p else S k
theorem SS.set_same (S : SS) (i : Nat) (p : Sg) : S.set i p i = p := if_pos rfl
theorem SS.set_other (S : SS) (i k : Nat) (p : Sg) (h : k ≠ i) : S.set i p k = S k := if_neg h
def clr (q i : Nat) : Nat := q &&& (18446744073709551615 - 2 ^ i)
theorem bit_lt {i : Nat} (h : i < 64) : 2 ^ i < 18446744073709551616 :=
 Nat.lt_of_lt_of_le (Nat.pow_lt_pow_right (by omega) h) (by decide)
theorem not_bit {i : Nat} (hi : i < 64) (j : Nat) : (18446744073709551615 - 2 ^ i).testBit j = (decide (j < 64) && !decide (i = j)) := by
 have h := Nat.testBit_two_pow_sub_succ (n := 64) (bit_lt hi) j;rw [Nat.testBit_two_pow] at h;rw [← h]
 congr 1
 omega
theorem low_bit {q j : Nat} (hq : q < 65536) (h : 16 ≤ j) : q.testBit j = false :=
 Nat.testBit_lt_two_pow (Nat.lt_of_lt_of_le hq (by have := Nat.pow_le_pow_right (n := 2) (by omega) h; simpa using this))
theorem clr_bit {q i : Nat} (hq : q < 65536) (hi : i < 64) (j : Nat) : (clr q i).testBit j = if j = i then false else q.testBit j := by
 unfold clr;rw [Nat.testBit_and, not_bit hi]
 by_cases e : j = i
 ·rw [if_pos e, decide_eq_true e.symm]
  simp
 ·rw [if_neg e, decide_eq_false (fun (x : i = j) => e x.symm)]
  by_cases h : j < 64
  ·rw [decide_eq_true h]
   simp
  ·rw [low_bit hq (by omega)]
   rfl
theorem clr_lt {q i : Nat} (hq : q < 65536) : clr q i < 65536 := Nat.lt_of_le_of_lt Nat.and_le_left hq
def QOk (q : Nat) : Prop := q < 65536 ∧ q.testBit 0 = false
theorem QOk.zero : QOk 0 := ⟨by omega, by simp⟩
theorem QOk.clr {q i : Nat} (h : QOk q) (hi : i < 64) : QOk (clr q i) := ⟨clr_lt h.1, by
  rw [clr_bit h.1 hi]
  split
  · rfl
  · exact h.2⟩
theorem QOk.ext {q r : Nat} (h : QOk q) (h2 : QOk r) (hb : ∀ j, 1 ≤ j → j < 16 → q.testBit j = r.testBit j) : q = r := by
 apply Nat.eq_of_testBit_eq
 intro j
 by_cases h0 : j = 0
 ·rw [h0, h.2, h2.2]
 ·by_cases h16 : j < 16
  ·exact hb j (by omega) h16
  ·rw [low_bit h.1 (by omega), low_bit h2.1 (by omega)]
def nxF (h : List Int) : Nat → Nat → Nat → Nat × Nat
 | 0, _, q => (0, q)
 | k + 1, i, q => if q.testBit i then (if h.getD (i - 1) 0 = ign then nxF h k (i + 1) (clr q i) else (i, clr q i)) else nxF h k (i + 1) q
def Sg.nx (p : Sg) : Nat × Nat := if p.q.testBit 9 then (9, clr p.q 9) else if p.k.isSome then (0, p.q) else nxF p.h 15 1 p.q
def Sg.q' (p : Sg) (q : Nat) : Sg := ⟨p.h, q, p.k⟩
structure Sg.Ok (p : Sg) : Prop where
 len : p.h.length = 15
 nine : p.h[8]? = some dfl
 u64 : ∀ x ∈ p.h, 0 ≤ x ∧ x < 18446744073709551616
 pend : QOk p.q
 vm : ∀ pc st, p.k = some (pc, st) → 0 ≤ pc ∧ pc ≤ 1048576 ∧ st.length ≤ 32 ∧ ∀ x ∈ st, 0 ≤ x ∧ x < 18446744073709551616
def SOk (S : SS) : Prop := ∀ i, i < 8 → (S i).Ok
theorem first_ok : Sg.first.Ok := ⟨rfl, rfl, fun x hx => by
    have : x = dfl := List.eq_of_mem_replicate hx
    rw [this]; unfold dfl; omega, QOk.zero, fun pc st h => by cases h⟩
theorem ok_first : SOk SS.first := fun i _ => first_ok
theorem SOk.set {S : SS} (h : SOk S) {i : Nat} {p : Sg} (hp : p.Ok) : SOk (S.set i p) := by
 intro k hk
 by_cases e : k = i
 ·rw [e, SS.set_same]; exact hp
 ·rw [SS.set_other _ _ _ _ e]; exact h k hk
def encV : Option (Int × List Int) → List Int
 | none => [0]
 | some (pc, st) => 1 :: pc :: (st.length : Int) :: st
def encP (p : Sg) : List Int := p.h ++ (p.q : Int) :: encV p.k
def encK (S : SS) : Nat → List Int
 | 0 => []
 | k + 1 => encK S k ++ encP (S k)
def encS (S : SS) : List Int := encK S 8
theorem encV_len {p : Sg} (h : p.Ok) : (encV p.k).length ≤ 35 := by
 cases hk : p.k with
 | none => simp [encV]
 | some z =>
  obtain ⟨pc, st⟩ := z;have := (h.vm pc st hk).2.2.1;simp [encV];omega
theorem encP_len {p : Sg} (h : p.Ok) : (encP p).length ≤ 51 := by
 have h1 := encV_len h;have h2 := h.len;simp only [encP, List.length_append, List.length_cons];omega
theorem encK_len {S : SS} (h : SOk S) : ∀ k, k ≤ 8 → (encK S k).length ≤ 51 * k
 | 0, _ => by simp [encK]
 | k + 1, hk => by
  have h1 := encK_len h k (by omega);have h2 := encP_len (h k (by omega));simp only [encK, List.length_append];omega
theorem encS_len {S : SS} (h : SOk S) : (encS S).length ≤ 408 := encK_len h 8 (Nat.le_refl _)
theorem encK_ext {S T : SS} : ∀ k, (∀ i, i < k → S i = T i) → encK S k = encK T k
 | 0, _ => rfl
 | k + 1, h => by
  simp only [encK];rw [encK_ext k (fun i hi => h i (by omega)), h k (by omega)]
def rdV : List Int → Option (Int × List Int)
 | pc :: n :: t => if 1048576 < pc ∨ 32 < n ∨ (t.length : Int) < n then none else some (pc, t.take n.toNat)
 | _ => none
def okQ (x : Int) : Bool := decide (x < 65536) && decide (x % 2 = 0)
def rd1 (w : List Int) : Option (Nat × Sg) :=
 if w.length < 17 then none
 else if w.getD 8 0 ≠ dfl ∨ okQ (w.getD 15 0) = false ∨ 1 < w.getD 16 0 then none
 else if w.getD 16 0 = 0 then some (17, ⟨w.take 15, (w.getD 15 0).toNat, none⟩)
 else (rdV (w.drop 17)).map (fun z => (19 + z.2.length, ⟨w.take 15, (w.getD 15 0).toNat, some z⟩))
def rdK (S : SS) : Nat → List Int → Nat → Option SS
 | 0, w, i => if w = [] then some S else none
 | k + 1, w, i => match rd1 w with
  | none => none
  | some (n, p) => rdK (S.set i p) k (w.drop n) (i + 1)
def decS (w : List Int) : Option SS := rdK SS.first 8 w 0
theorem okQ_of {q : Nat} (h : QOk q) : okQ (q : Int) = true := by
 unfold okQ;have h1 := h.2;rw [Nat.testBit_zero] at h1;rw [decide_eq_true (by have := h.1; omega), decide_eq_true (by simp at h1; omega)]
 rfl
theorem okQ_nat {x : Int} (h0 : 0 ≤ x) (h : okQ x = true) : QOk x.toNat := by
 unfold okQ at h;simp only [Bool.and_eq_true, decide_eq_true_eq] at h;refine ⟨by omega, ?_⟩;rw [Nat.testBit_zero];simp;omega
theorem rdV_enc (pc : Int) (st r : List Int) (h2 : pc ≤ 1048576) (h3 : st.length ≤ 32) : rdV (pc :: (st.length : Int) :: (st ++ r)) = some (pc, st) := by
 rw [rdV, if_neg (by rw [List.length_append]; omega), Int.toNat_natCast, List.take_left' rfl]
theorem rd1_enc {p : Sg} (h : p.Ok) (r : List Int) : rd1 (encP p ++ r) = some ((encP p).length, p) := by
 have hl := h.len
 have e8 : (encP p ++ r).getD 8 0 = dfl := by
  rw [List.getD_eq_getElem?_getD];unfold encP;rw [List.append_assoc, List.getElem?_append_left (by omega), h.nine]
  rfl
 have e15 : (encP p ++ r).getD 15 0 = (p.q : Int) := by
  rw [List.getD_eq_getElem?_getD];unfold encP;rw [List.append_assoc, List.getElem?_append_right (by omega), hl]
  rfl
 have e16 : (encP p ++ r).getD 16 0 = (encV p.k ++ r).getD 0 0 := by
  rw [List.getD_eq_getElem?_getD, List.getD_eq_getElem?_getD];unfold encP;rw [List.append_assoc, List.getElem?_append_right (by omega), hl]
  rfl
 have et : (encP p ++ r).take 15 = p.h := by
  unfold encP;rw [List.append_assoc, List.take_left' hl]
 have ed : (encP p ++ r).drop 17 = (encV p.k ++ r).drop 1 := by
  unfold encP;rw [List.append_assoc, List.drop_append, hl, List.drop_eq_nil_of_le (by omega)]
  rfl
 have hel : 17 ≤ (encP p ++ r).length := by
  rw [List.length_append];unfold encP;rw [List.length_append, hl, List.length_cons]
  cases p.k with
  | none => simp only [encV, List.length_cons, List.length_nil]; omega
  | some z => obtain ⟨pc, st⟩ := z; simp only [encV, List.length_cons]; omega
 unfold rd1;rw [if_neg (by omega), e8, e15, e16, et, ed, okQ_of h.pend, Int.toNat_natCast]
 have hlen : (encP p).length = 16 + (encV p.k).length := by
  unfold encP;rw [List.length_append, hl, List.length_cons];omega
 obtain ⟨ph, pq, pk⟩ := p
 cases pk with
 | none =>
  rw [if_neg (by simp [encV]), if_pos (by rfl), hlen]
  rfl
 | some z =>
  obtain ⟨pc, st⟩ := z;have hv := h.vm pc st rfl;rw [if_neg (by simp [encV]), if_neg (by simp [encV]), hlen]
  show (rdV (pc :: (st.length : Int) :: (st ++ r))).map _ = _
  rw [rdV_enc pc st r hv.2.1 hv.2.2.1];simp [encV];omega
theorem rdV_back {w : List Int} {z : Int × List Int} (hp : ∀ x ∈ w, 0 ≤ x ∧ x < 18446744073709551616) (h : rdV w = some z) : w.take (2 + z.2.length) = z.1 :: (z.2.length : Int) :: z.2 ∧ 2 + z.2.length ≤ w.length ∧ 0 ≤ z.1 ∧ z.1 ≤ 1048576 ∧ z.2.length ≤ 32 ∧ ∀ x ∈ z.2, 0 ≤ x ∧ x < 18446744073709551616 := by
 match w, h with
 | pc :: n :: t, h =>
  rw [rdV] at h
  by_cases h2 : 1048576 < pc ∨ 32 < n ∨ (t.length : Int) < n
  ·rw [if_pos h2] at h; cases h
  ·rw [if_neg h2] at h
   cases h
   have hn := (hp n (by simp)).1;have hpc := (hp pc (by simp)).1
   have hl : (t.take n.toNat).length = n.toNat := by rw [List.length_take]; omega
   dsimp only;rw [hl]
   refine ⟨?_, by simp; omega, hpc, by omega, by omega, fun x hx => hp x (by simp [List.mem_of_mem_take hx])⟩
   rw [show 2 + n.toNat = (n.toNat + 1) + 1 by omega, List.take_succ_cons, List.take_succ_cons, show ((n.toNat : Nat) : Int) = n by omega]
theorem getD_of {w : List Int} {i : Nat} (h : i < w.length) : w[i]? = some (w.getD i 0) := by
 rw [List.getD_eq_getElem?_getD, List.getElem?_eq_getElem h]
 rfl
theorem rd1_back {w : List Int} {n : Nat} {p : Sg} (hp : ∀ x ∈ w, 0 ≤ x ∧ x < 18446744073709551616) (h : rd1 w = some (n, p)) : w.take n = encP p ∧ n ≤ w.length ∧ 1 ≤ n ∧ p.Ok := by
 unfold rd1 at h
 by_cases h1 : w.length < 17
 ·rw [if_pos h1] at h; cases h
 ·rw [if_neg h1] at h
  by_cases h2 : w.getD 8 0 ≠ dfl ∨ okQ (w.getD 15 0) = false ∨ 1 < w.getD 16 0
  ·rw [if_pos h2] at h; cases h
  ·rw [if_neg h2] at h
   have h8 : w.getD 8 0 = dfl := by
    rcases Classical.em (w.getD 8 0 = dfl) with e | e
    ·exact e
    ·exact absurd (Or.inl e) h2
   have hq : okQ (w.getD 15 0) = true := by
    cases e : okQ (w.getD 15 0) with
    | true => rfl
    | false => exact absurd (Or.inr (Or.inl e)) h2
   have hm : w.getD 16 0 ≤ 1 := by
    rcases Int.lt_or_le 1 (w.getD 16 0) with e | e
    ·exact absurd (Or.inr (Or.inr e)) h2
    ·exact e
   have g8 := getD_of (w := w) (i := 8) (by omega);have g15 := getD_of (w := w) (i := 15) (by omega);have g16 := getD_of (w := w) (i := 16) (by omega);have p15 := (hp _ (List.mem_of_getElem? g15)).1;have p16 := (hp _ (List.mem_of_getElem? g16)).1;have hqk := okQ_nat p15 hq
   have hw17 : w.take 17 = w.take 15 ++ [w.getD 15 0, w.getD 16 0] := by
    rw [List.take_add_one, List.take_add_one, g15, g16];simp
   have hlen : (w.take 15).length = 15 := by rw [List.length_take]; omega
   have hni : (w.take 15)[8]? = some dfl := by rw [List.getElem?_take_of_lt (by omega), g8, h8]
   have hu : ∀ x ∈ w.take 15, 0 ≤ x ∧ x < 18446744073709551616 := fun x hx => hp x (List.mem_of_mem_take hx)
   have hqc : (((w.getD 15 0).toNat : Nat) : Int) = w.getD 15 0 := by omega
   by_cases h0 : w.getD 16 0 = 0
   ·rw [if_pos h0] at h
    cases h
    refine ⟨?_, by omega, by omega, ⟨hlen, hni, hu, hqk, fun pc st e => by cases e⟩⟩
    rw [hw17, h0]
    show _ = w.take 15 ++ (((w.getD 15 0).toNat : Nat) : Int) :: [0]
    rw [hqc]
   ·rw [if_neg h0] at h
    have hm1 : w.getD 16 0 = 1 := by omega
    cases hv : rdV (w.drop 17) with
    | none => rw [hv] at h; cases h
    | some z =>
     rw [hv] at h
     cases h
     obtain ⟨e1, e2, e3, e4, e5, e6⟩ := rdV_back (fun x hx => hp x (List.mem_of_mem_drop hx)) hv;rw [List.length_drop] at e2
     refine ⟨?_, by omega, by omega, ⟨hlen, hni, hu, hqk, fun pc st e => by cases e; exact ⟨e3, e4, e5, e6⟩⟩⟩
     rw [show 19 + z.2.length = 17 + (2 + z.2.length) by omega, List.take_add, hw17, e1, hm1]
     show _ = w.take 15 ++ (((w.getD 15 0).toNat : Nat) : Int) :: (1 :: z.1 :: (z.2.length : Int) :: z.2)
     rw [hqc];simp
theorem rdK_none {S : SS} {k i : Nat} {w : List Int} (h : rd1 w = none) : rdK S (k + 1) w i = none := by
 rw [rdK, h]
theorem rdK_some {S : SS} {k i m : Nat} {w : List Int} {p : Sg} (h : rd1 w = some (m, p)) : rdK S (k + 1) w i = rdK (S.set i p) k (w.drop m) (i + 1) := by
 rw [rdK, h]
theorem rdK_enc {S T : SS} (hF : SOk S) : ∀ k i, i + k = 8 → ∀ E r, E ++ r = encS S → E = encK S i → (∀ j, j < i → T j = S j) → (∀ j, 8 ≤ j → T j = S j) → rdK T k r i = some S
 | 0, i, hi, E, r, h1, h2, h3, h4 => by
  have : r = [] := by
   obtain rfl : i = 8 := by omega
   rw [h2] at h1;exact List.append_cancel_left (h1.trans (List.append_nil _).symm)
  subst this
  have hTS : T = S := by
   funext j
   by_cases hj : j < 8
   ·exact h3 j (by omega)
   ·exact h4 j (by omega)
  rw [rdK, if_pos rfl, hTS]
 | k + 1, i, hi, E, r, h1, h2, h3, h4 => by
  obtain ⟨r2, hr⟩ : ∃ r2, r = encP (S i) ++ r2 := by
   have h5 : ∀ m, i + 1 ≤ m → ∃ z, encK S m = encK S (i + 1) ++ z := by
    intro m hm
    induction m with
    | zero => omega
    | succ m ih =>
     by_cases e : i + 1 = m + 1
     ·rw [e]; exact ⟨[], by simp⟩
     ·obtain ⟨z, hz⟩ := ih (by omega)
      exact ⟨z ++ encP (S m), by simp only [encK, hz]; simp⟩
   obtain ⟨z, hz⟩ := h5 8 (by omega);refine ⟨z, ?_⟩
   have : E ++ r = E ++ (encP (S i) ++ z) := by
    rw [h1, h2]
    show encK S 8 = _
    rw [hz];simp [encK]
   exact List.append_cancel_left this
  subst hr;rw [rdK, rd1_enc (hF i (by omega)) r2];dsimp only;rw [List.drop_left' rfl];refine rdK_enc hF k (i + 1) (by omega) (E ++ encP (S i)) r2 (by rw [List.append_assoc]; exact h1) (by rw [h2]; rfl) (fun j hj => ?_) (fun j hj => ?_)
  ·by_cases e : j = i
   ·rw [e, SS.set_same]
   ·rw [SS.set_other _ _ _ _ e]
    exact h3 j (by omega)
  ·rw [SS.set_other _ _ _ _ (by omega)]
   exact h4 j hj
theorem dec_enc {S : SS} (hF : SOk S) (h0 : ∀ j, 8 ≤ j → S j = Sg.first) : decS (encS S) = some S :=
 rdK_enc hF 8 0 rfl [] _ rfl rfl (fun j hj => by omega) (fun j hj => (h0 j hj).symm)
theorem rdK_back {S : SS} : ∀ k i w, i + k = 8 → ∀ T, (∀ x ∈ w, 0 ≤ x ∧ x < 18446744073709551616) → SOk T → (∀ j, i ≤ j → T j = Sg.first) → rdK T k w i = some S → encS S = encK T i ++ w ∧ SOk S ∧ (∀ j, 8 ≤ j → S j = Sg.first) ∧ (∀ j, j < i → S j = T j)
 | 0, i, w, hi, T, hp, hF, h0, h => by
  by_cases e : w = []
  ·rw [rdK, if_pos e] at h
   cases h
   subst e
   obtain rfl : i = 8 := by omega
   exact ⟨by rw [List.append_nil]; rfl, hF, fun j hj => h0 j hj, fun j _ => rfl⟩
  ·rw [rdK, if_neg e] at h; cases h
 | k + 1, i, w, hi, T, hp, hF, h0, h => by
  rw [rdK] at h
  cases h1 : rd1 w with
  | none => rw [h1] at h; cases h
  | some z =>
   obtain ⟨n, o⟩ := z;rw [h1] at h;dsimp only at h;obtain ⟨e1, e2, e3, e4⟩ := rd1_back hp h1;obtain ⟨f1, f2, f3, f4⟩ := rdK_back k (i + 1) (w.drop n) (by omega) (T.set i o) (fun x hx => hp x (List.mem_of_mem_drop hx)) (hF.set e4) (fun j hj => by rw [SS.set_other _ _ _ _ (by omega)]; exact h0 j (by omega)) h;refine ⟨?_, f2, f3, fun j hj => ?_⟩
   ·rw [f1]
    simp only [encK];rw [SS.set_same, encK_ext (S := T.set i o) (T := T) i (fun j hj => SS.set_other _ _ _ _ (by omega)), ← e1, List.append_assoc, List.take_append_drop]
   ·rw [f4 j (by omega)]
    exact SS.set_other _ _ _ _ (by omega)
theorem dec_back {w : List Int} {S : SS} (hp : ∀ x ∈ w, 0 ≤ x ∧ x < 18446744073709551616) (h : decS w = some S) : encS S = w ∧ SOk S ∧ ∀ j, 8 ≤ j → S j = Sg.first := by
 obtain ⟨h1, h2, h3, _⟩ := rdK_back 8 0 w rfl SS.first hp ok_first (fun j _ => rfl) h;exact ⟨h1, h2, h3⟩
end Sg
namespace Ow
end Ow
namespace Sg
open Ow
def TRd (w : World) (a : Option Addr) (ws : List Int) : Prop := ∀ (j : Nat) (x : Int), ws[j]? = some x → ∃ g off cs fr, a = some ⟨g, off, none⟩ ∧ w.heap[g]? = some (.cells cs 45 fr) ∧ cs[off + j]? = some (.int .u64 x)
def KeepW (w w' : World) : Prop := ∀ (g : Nat) (cs : Array Value) (fr : Nat × Nat), w.heap[g]? = some (.cells cs 45 fr) → w'.heap[g]? = w.heap[g]?
theorem KeepW.refl (w : World) : KeepW w w := fun _ _ _ _ => rfl
theorem KeepW.trans {a b c : World} (h : KeepW a b) (k : KeepW b c) : KeepW a c := fun g cs fr hg => by
 have h1 := h g cs fr hg;exact (k g cs fr (h1.trans hg)).trans h1
theorem KeepW.below {w w' : World} (h : Below w.heap.size w w') : KeepW w w' := fun g cs fr hg => h.block g (lt_of_heap hg)
theorem KeepW.upd {b : Nat} {w w' : World} {row : Array Value} {t : TypeId} (hb : w.heap[b]? = some (.cells row t)) (ht : t ≠ 45) (h : Upd b w w') : KeepW w w' := fun g cs fr hg => h.block g (lt_of_heap hg) (fun e => by
  rw [e, hb] at hg;simp only [Option.some.injEq, Obj.cells.injEq] at hg
  exact ht hg.2.1)
theorem TRd.kept {w w' : World} {a : Option Addr} {ws : List Int} (h : TRd w a ws) (hk : KeepW w w') : TRd w' a ws := by
 intro j x hj;obtain ⟨g, off, cs, fr, ha, hh, hc⟩ := h j x hj;exact ⟨g, off, cs, fr, ha, (hk g cs fr hh).trans hh, hc⟩
theorem TRd.rd {w : World} {a : Option Addr} {ws : List Int} (h : TRd w a ws) : Rd w a ws := by
 intro j x hj;obtain ⟨g, off, cs, fr, ha, hh, hc⟩ := h j x hj;exact ⟨g, off, ha, (cell_of_heap hh).trans hc⟩
theorem TRd.nil (w : World) (a : Option Addr) : TRd w a [] := fun j x h => by simp at h
theorem own_trd {w : World} {base : Nat} {v : Value} {D : List Int} (h : w.ownsRow base 45 1 v D.length (uvs D)) : ∃ a cap, v = .slice a D.length cap ∧ D.length ≤ cap ∧ TRd w a D := by
 rcases h.2 with ⟨rfl, e2⟩ | ⟨g, cap, cur, rfl, _, hh, hle, _, _, ht⟩
 ·have : D = [] := List.eq_nil_of_length_eq_zero e2
  subst this;exact ⟨none, 0, rfl, Nat.le_refl _, TRd.nil _ _⟩
 ·refine ⟨_, cap, rfl, hle, fun j x hx => ⟨g, 0, cur, (0, 0), rfl, hh, ?_⟩⟩
  have hj : j < D.length := (List.getElem?_eq_some_iff.1 hx).1
  have hq : (uvs D)[j]? = some (.int .u64 x) := by simp [uvs, hx]
  rw [Nat.zero_add];rw [← ht, Nat.mul_one, List.getElem?_take_of_lt hj] at hq
  simpa using hq
structure SgR (w : World) (row : Array Value) (o : Nat) (p : Sg) : Prop where
 size : o + 19 ≤ row.size
 hnd : ∀ j, j < 15 → row[o + j]? = some (.int .u64 (p.h.getD j 0))
 pen : row[o + 15]? = some (.int .u64 (p.q : Int))
 inh : row[o + 16]? = some (.bool p.k.isSome)
 pc : row[o + 17]? = some (.int .i64 p.pc)
 stk : ∃ a c, row[o + 18]? = some (.slice a p.st.length c) ∧ p.st.length ≤ c ∧ TRd w a p.st
theorem SgR.keep {w w' : World} {row row' : Array Value} {o : Nat} {p : Sg} (h : SgR w row o p) (hs : row'.size = row.size) (hk : ∀ k, o ≤ k → k < o + 19 → row'[k]? = row[k]?) (hw : KeepW w w') : SgR w' row' o p := by
 obtain ⟨a, c, h1, h2, h3⟩ := h.stk;refine ⟨by rw [hs]; exact h.size, fun j hj => ?_, ?_, ?_, ?_, ⟨a, c, ?_, h2, h3.kept hw⟩⟩
 ·rw [hk _ (by omega) (by omega)]; exact h.hnd j hj
 ·rw [hk _ (by omega) (by omega)]; exact h.pen
 ·rw [hk _ (by omega) (by omega)]; exact h.inh
 ·rw [hk _ (by omega) (by omega)]; exact h.pc
 ·rw [hk _ (by omega) (by omega)]; exact h1
theorem SgR.kept {w w' : World} {row : Array Value} {o : Nat} {p : Sg} (h : SgR w row o p) (hw : KeepW w w') : SgR w' row o p := h.keep rfl (fun _ _ _ => rfl) hw
def Same (o : Nat) (row row' : Array Value) : Prop := row'.size = row.size ∧ ∀ k, k < o ∨ o + 19 ≤ k → row'[k]? = row[k]?
theorem Same.refl (o : Nat) (row : Array Value) : Same o row row := ⟨rfl, fun _ _ => rfl⟩
theorem Same.trans {o : Nat} {r1 r2 r3 : Array Value} (h : Same o r1 r2) (k : Same o r2 r3) : Same o r1 r3 := ⟨k.1.trans h.1, fun i hi => (k.2 i hi).trans (h.2 i hi)⟩
theorem Same.set {o i : Nat} (row : Array Value) (v : Value) (h : i < 19) : Same o row (row.setIfInBounds (o + i) v) := ⟨by simp, fun k hk => by rw [Array.getElem?_setIfInBounds, if_neg (by omega)]⟩
def SB (w : World) (b : Nat) (row : Array Value) : Prop := w.heap[b]? = some (.cells row 124)
section
variable {w w' : World} {b : Nat} {row : Array Value}
theorem SB.lt (h : SB w b row) : b < w.heap.size := lt_of_heap h
theorem SB.keep (h : SB w b row) (hb : w'.heap[b]? = w.heap[b]?) : SB w' b row := hb.trans h
theorem SB.below (h : SB w b row) (hb : Below w.heap.size w w') : SB w' b row := h.keep (hb.block _ h.lt)
theorem SB.drew (h : SB w b row) : SB w.drew b row := h
theorem SB.cell (h : SB w b row) (i : Nat) : w.cell? ⟨b, i, none⟩ = row[i]? := cell_of_heap h
theorem SB.free (h : SB w b row) (i : Nat) : w.frozen? ⟨b, i, none⟩ = false := frozen_of_heap h
theorem SB.set (h : SB w b row) (i : Nat) (v : Value) : SB (w.setCell ⟨b, i, none⟩ v) b (row.setIfInBounds i v) := by
 unfold SB at *;rw [setCell_eq_setRow w b i _ _ _ _ h, setRow_heap w b _ _ _ _ h]
theorem SB.kw (h : SB w b row) (hu : Upd b w w') : KeepW w w' := KeepW.upd h (by decide) hu
end
theorem drewN_below {w w' : World} (h : ∃ q, w' = w.drewN q) : Below w.heap.size w w' := by
 obtain ⟨q, rfl⟩ := h;exact ⟨rfl, rfl, rfl, Nat.le_refl _, fun _ _ => rfl⟩
theorem ptr_eq (b o : Nat) (w : World) : (binOp .eql 57 (.pointer (some ⟨b, o, none⟩)) (.pointer none)).run Tryz.prog w = .ok (.bool false) w := by kernel_rfl
theorem shl_one {i : Nat} (h : i < 64) : IntKind.u64.wrap (2 ^ i) = ((2 ^ i : Nat) : Int) := by
 have hl := bit_lt h
 have e : ((2 : Int) ^ i) = ((2 ^ i : Nat) : Int) := by simp
 rw [e];generalize (2 ^ i : Nat) = M at *;rw [IntKind.wrap_u64];omega
theorem handler_at (b o m : Nat) (p : Sg) (row : Array Value) (w : World) (hb : SB w b row) (hr : SgR w row o p) (hm : m < 15) :
  Calls Tryz.prog 97 #[.pointer (some ⟨b, o, none⟩), .int .i64 ((m : Int) + 1)] w fun x w' => x = .returned (.int .u64 (p.h.getD m 0)) ∧ w' = w := by
 have c0 := (hb.cell (o + m)).trans (hr.hnd m hm)
 have hw : IntKind.i64.wrap ((m : Int) + 1 - 1) = (m : Int) := by simp [IntKind.wrap, IntKind.bits, IntKind.signed]; omega
 have hmi : (m : Int) < 15 := by omega
 clear hb hr;generalize (m : Int) + 1 = n at *
 go_enter Tryz.func97, Tryz.ntmps97
 go_wp2;go_ret;exact ⟨rfl, rfl⟩
def hdB (p : Sg) (n : Nat) : Bool := p.q.testBit n && (p.h.getD (n - 1) 0 != ign)
def lowS (f : Nat → Bool) : Nat → Nat → Nat
 | 0, _ => 0
 | k + 1, i => if f i then i else lowS f k (i + 1)
end Sg
namespace Ow
end Ow
namespace Sg
open Ow
theorem lowS_is (f : Nat → Bool) : ∀ k i, 1 ≤ i → (lowS f k i = 0 ∧ ∀ j, i ≤ j → j < i + k → f j = false) ∨ (i ≤ lowS f k i ∧ lowS f k i < i + k ∧ f (lowS f k i) = true ∧ ∀ j, i ≤ j → j < lowS f k i → f j = false)
 | 0, i, _ => Or.inl ⟨rfl, fun j h1 h2 => by omega⟩
 | k + 1, i, hi => by
  unfold lowS
  cases hf : f i with
  | true => exact Or.inr ⟨Nat.le_refl _, by show i < _; omega, hf, fun j h1 (h2 : j < i) => by omega⟩
  | false =>
   rcases lowS_is f k (i + 1) (by omega) with ⟨h1, h2⟩ | ⟨h1, h2, h3, h4⟩
   ·refine Or.inl ⟨h1, fun j h3 h4 => ?_⟩
    by_cases e : j = i
    ·rw [e]; exact hf
    ·exact h2 j (by omega) (by omega)
   ·refine Or.inr ⟨?_, ?_, h3, fun j h5 h6 => ?_⟩
    ·show i ≤ lowS f k (i + 1); omega
    ·show lowS f k (i + 1) < _; omega
    ·by_cases e : j = i
     ·rw [e]; exact hf
     ·exact h4 j (by omega) h6
theorem nx_skip {h : List Int} {n : Nat} (hi : h.getD (n - 1) 0 = ign) : ∀ k i q, QOk q → 1 ≤ i → i ≤ n → n < i + k → i + k ≤ 16 → q.testBit n = true → (∀ j, i ≤ j → j < n → q.testBit j = false) → nxF h k i (clr q n) = nxF h k i q
 | 0, i, q, hq, _, h1, h2, _, _, _ => by omega
 | k + 1, i, q, hq, h0, h1, h2, h16, hn, hl => by
  by_cases e : i = n
  ·subst e
   have hc := clr_bit hq.1 (i := i) (by omega) i;rw [if_pos rfl] at hc;unfold nxF;rw [hc, hn, if_neg (by simp), if_pos rfl, if_pos hi]
  ·have hb := hl i (Nat.le_refl _) (by omega)
   have hc := clr_bit hq.1 (i := n) (by omega) i;rw [if_neg e, hb] at hc;unfold nxF;rw [hc, hb, if_neg (by simp), if_neg (by simp)];exact nx_skip hi k (i + 1) q hq (by omega) (by omega) (by omega) (by omega) hn (fun j h3 h4 => hl j (by omega) h4)
theorem hdB_bit {p : Sg} {n : Nat} (h : hdB p n = true) : p.q.testBit n = true := by
 unfold hdB at h;rw [Bool.and_eq_true] at h;exact h.1
structure NxI (p : Sg) (s n q : Nat) : Prop where
 qok : QOk q
 low : n = lowS q.testBit 15 1
 hnd : s = lowS (hdB (p.q' q)) 15 1
 nx : nxF p.h 15 1 q = nxF p.h 15 1 p.q
theorem NxI.pos {p : Sg} {s n q : Nat} (h : NxI p s n q) (hne : n ≠ s) : 1 ≤ n ∧ n ≤ 15 ∧ q.testBit n = true ∧ (∀ j, 1 ≤ j → j < n → q.testBit j = false) ∧ p.h.getD (n - 1) 0 = ign := by
 rcases lowS_is q.testBit 15 1 (by omega) with ⟨h1, h2⟩ | ⟨h1, h2, h3, h4⟩
 ·exfalso
  rcases lowS_is (hdB (p.q' q)) 15 1 (by omega) with ⟨k1, _⟩ | ⟨k1, k2, k3, _⟩
  ·exact hne (by rw [h.low, h1, h.hnd, k1])
  ·have k4 := hdB_bit k3
   rw [show (p.q' q).q = q from rfl, h2 _ k1 k2] at k4
   cases k4
 ·rw [← h.low] at h1 h2 h3 h4
  refine ⟨h1, by omega, h3, h4, ?_⟩
  rcases Classical.em (p.h.getD (n - 1) 0 = ign) with e | e
  ·exact e
  ·exfalso
   have hn : hdB (p.q' q) n = true := by
    unfold hdB;rw [show (p.q' q).q = q from rfl, show (p.q' q).h = p.h from rfl, h3, bne_iff_ne.2 e]
    rfl
   rcases lowS_is (hdB (p.q' q)) 15 1 (by omega) with ⟨k1, k2⟩ | ⟨k1, k2, k3, k4⟩
   ·rw [k2 n h1 h2] at hn; cases hn
   ·rw [← h.hnd] at k1 k2 k3 k4
    have q1 : ¬ n < s := fun x => by rw [k4 n h1 x] at hn; cases hn
    have q2 : ¬ s < n := fun x => by
     unfold hdB at k3;rw [show (p.q' q).q = q from rfl, h4 s k1 x] at k3
     cases k3
    omega
theorem lowS_ext {f g : Nat → Bool} : ∀ k i, (∀ j, i ≤ j → j < i + k → f j = g j) → lowS f k i = lowS g k i
 | 0, _, _ => rfl
 | k + 1, i, h => by
  unfold lowS;rw [h i (Nat.le_refl _) (by omega), lowS_ext k (i + 1) (fun j h1 h2 => h j (by omega) (by omega))]
theorem NxI.drop {p : Sg} {s n q : Nat} (h : NxI p s n q) (hne : n ≠ s) : NxI p s (lowS (clr q n).testBit 15 1) (clr q n) ∧ (lowS (clr q n).testBit 15 1 = 0 ∨ n < lowS (clr q n).testBit 15 1) := by
 obtain ⟨h1, h2, h3, h4, h5⟩ := h.pos hne
 have hc := fun j => clr_bit h.qok.1 (i := n) (by omega) j
 refine ⟨⟨h.qok.clr (by omega), rfl, ?_, ?_⟩, ?_⟩
 ·rw [h.hnd]
  apply lowS_ext
  intro j _ _;unfold hdB;rw [show (p.q' q).q = q from rfl, show (p.q' q).h = p.h from rfl, show (p.q' (clr q n)).q = clr q n from rfl, show (p.q' (clr q n)).h = p.h from rfl, hc j]
  by_cases e : j = n
  ·rw [if_pos e, e, h5]
   simp
  ·rw [if_neg e]
 ·rw [nx_skip h5 15 1 q h.qok (by omega) h1 (by omega) (by omega) h3 h4]
  exact h.nx
 ·rcases lowS_is (clr q n).testBit 15 1 (by omega) with ⟨k1, _⟩ | ⟨k1, k2, k3, _⟩
  ·exact Or.inl k1
  ·right
   rw [hc] at k3
   by_cases e : lowS (clr q n).testBit 15 1 = n
   ·rw [if_pos e] at k3; cases k3
   ·rw [if_neg e] at k3
    rcases Nat.lt_or_ge n (lowS (clr q n).testBit 15 1) with x | x
    ·exact x
    ·rw [h4 _ k1 (by omega)] at k3; cases k3
theorem SgR.pend {w w' : World} {row : Array Value} {o : Nat} {p : Sg} (h : SgR w row o p) (q : Nat) (hw : KeepW w w') : SgR w' (row.setIfInBounds (o + 15) (.int .u64 (q : Int))) o (p.q' q) := by
 have hs := h.size;obtain ⟨a, c, h1, h2, h3⟩ := h.stk;refine ⟨by simpa using hs, fun j hj => ?_, ?_, ?_, ?_, ⟨a, c, ?_, h2, h3.kept hw⟩⟩
 ·rw [Array.getElem?_setIfInBounds, if_neg (by omega)]; exact h.hnd j hj
 ·rw [Array.getElem?_setIfInBounds, if_pos rfl, if_pos (by omega)]; rfl
 ·rw [Array.getElem?_setIfInBounds, if_neg (by omega)]; exact h.inh
 ·rw [Array.getElem?_setIfInBounds, if_neg (by omega)]; exact h.pc
 ·rw [Array.getElem?_setIfInBounds, if_neg (by omega)]; exact h1
end Sg
namespace Ow
end Ow
namespace Sg
open Ow
def putA : Array Value → Nat → List Value → Array Value
 | row, _, [] => row
 | row, o, v :: r => putA (row.setIfInBounds o v) (o + 1) r
theorem putA_size : ∀ (vs : List Value) (o : Nat) (row : Array Value), (putA row o vs).size = row.size
 | [], _, _ => rfl
 | v :: r, o, row => by unfold putA; rw [putA_size r]; simp
theorem putA_out : ∀ (vs : List Value) (o : Nat) (row : Array Value) (k : Nat), k < o ∨ o + vs.length ≤ k → (putA row o vs)[k]? = row[k]?
 | [], _, _, _, _ => rfl
 | v :: r, o, row, k, h => by
  rw [List.length_cons] at h;unfold putA;rw [putA_out r (o + 1) _ k (by omega), Array.getElem?_setIfInBounds, if_neg (by omega)]
theorem putA_in : ∀ (vs : List Value) (o : Nat) (row : Array Value) (j : Nat), j < vs.length → o + vs.length ≤ row.size → (putA row o vs)[o + j]? = vs[j]?
 | [], _, _, _, h, _ => by simp at h
 | v :: r, o, row, j, h, hs => by
  rw [List.length_cons] at h hs;unfold putA
  cases j with
  | zero => rw [putA_out r (o + 1) _ _ (by omega), Array.getElem?_setIfInBounds, if_pos (by omega), if_pos (by omega)]; rfl
  | succ j =>
   have := putA_in r (o + 1) (row.setIfInBounds o v) j (by omega) (by simp; omega);rw [show o + (j + 1) = o + 1 + j by omega, this]
   rfl
theorem SB.sets {b : Nat} : ∀ (vs : List Value) (o : Nat) (w : World) (row : Array Value), SB w b row → SB (w.setCells b o vs) b (putA row o vs)
 | [], _, _, _, h => h
 | v :: r, o, w, row, h => SB.sets r (o + 1) _ _ (h.set o v)
theorem upd_sets (b : Nat) : ∀ (vs : List Value) (o : Nat) (w : World), Upd b w (w.setCells b o vs)
 | [], _, w => Upd.refl b w
 | v :: r, o, w => (Upd.setCell b o w v).trans (upd_sets b r (o + 1) _)
theorem SB.there {w : World} {b : Nat} {row : Array Value} (h : SB w b row) (o n : Nat) (hn : o + n ≤ row.size) : w.there b o n := fun j hj => by
 refine ⟨?_, h.free _⟩;rw [h.cell, Array.getElem?_eq_getElem (by omega)]
 rfl
theorem putA_same {vs : List Value} (o : Nat) (row : Array Value) (h : vs.length = 19) : Same o row (putA row o vs) := ⟨putA_size _ _ _, fun k hk => putA_out vs o row k (by omega)⟩
structure SgRow (w : World) (row : Array Value) (S : SS) : Prop where
 size : row.size = 152
 at' : ∀ i, i < 8 → SgR w row (i * 19) (S i)
theorem SgRow.put {w w' : World} {row row' : Array Value} {S : SS} {i : Nat} {p : Sg} (h : SgRow w row S) (hs : Same (i * 19) row row') (hr : SgR w' row' (i * 19) p) (hw : KeepW w w') : SgRow w' row' (S.set i p) := by
 refine ⟨hs.1.trans h.size, fun j hj => ?_⟩
 by_cases e : j = i
 ·rw [e, SS.set_same]; exact hr
 ·rw [SS.set_other _ _ _ _ e]
  exact (h.at' j hj).keep hs.1 (fun k h1 h2 => hs.2 k (by omega)) hw
theorem SgRow.kept {w w' : World} {row : Array Value} {S : SS} (h : SgRow w row S) (hw : KeepW w w') : SgRow w' row S := ⟨h.size, fun i hi => (h.at' i hi).kept hw⟩
theorem SgRow.ext {w : World} {row : Array Value} {S T : SS} (h : SgRow w row S) (he : ∀ i, i < 8 → T i = S i) : SgRow w row T := ⟨h.size, fun i hi => by rw [he i hi]; exact h.at' i hi⟩
def SgAt (w : World) (b : Nat) (S : SS) : Prop := ∃ row, SB w b row ∧ SgRow w row S
section
variable {w w' : World} {b : Nat} {S : SS}
theorem SgAt.lt (h : SgAt w b S) : b < w.heap.size := by
 obtain ⟨row, hr, _⟩ := h;exact hr.lt
theorem SgAt.keep (h : SgAt w b S) (hb : w'.heap[b]? = w.heap[b]?) (hw : KeepW w w') : SgAt w' b S := by
 obtain ⟨row, hr, h1⟩ := h;exact ⟨row, hr.keep hb, h1.kept hw⟩
theorem SgAt.below (h : SgAt w b S) (hb : Below w.heap.size w w') : SgAt w' b S := h.keep (hb.block _ h.lt) (KeepW.below hb)
end
def frow (t : List Value) (k : Nat) : Array Value := (List.replicate k (Value.int .u64 18446744073709551615) ++ (List.replicate (15 - k) (Value.int .u64 0) ++ t)).toArray
theorem frow_size {t : List Value} {k : Nat} (h : k ≤ 15) : (frow t k).size = 15 + t.length := by simp [frow]; omega
theorem frow_set {t : List Value} {k : Nat} (h : k < 15) : (frow t k).setIfInBounds k (.int .u64 18446744073709551615) = frow t (k + 1) := by
 apply Array.ext'
 unfold frow;rw [Array.toList_setIfInBounds, List.toList_toArray, List.toList_toArray, List.set_append_right _ _ (by simp)];rw [show 15 - k = (15 - (k + 1)) + 1 by omega, List.replicate_succ (n := 15 - (k + 1)), List.replicate_succ' (n := k), List.append_assoc];simp
theorem frow_get {t : List Value} {k : Nat} (h : k < 15) : (frow t k)[k]? = some (.int .u64 0) := by
 unfold frow;rw [List.getElem?_toArray, List.getElem?_append_right (by simp), List.getElem?_append_left (by simp; omega), List.length_replicate, Nat.sub_self, List.getElem?_replicate, if_pos (by omega)]
theorem frow_hnd {t : List Value} {j : Nat} (h : j < 15) : (frow t 15)[j]? = some (.int .u64 18446744073709551615) := by
 unfold frow;rw [List.getElem?_toArray, List.getElem?_append_left (by simpa using h), List.getElem?_replicate, if_pos h]
theorem frow_tail {t : List Value} (j : Nat) : (frow t 15)[15 + j]? = t[j]? := by
 unfold frow;rw [List.getElem?_toArray, List.getElem?_append_right (by simp), List.getElem?_append_right (by simp)];simp
theorem frow_one {t : List Value} (ht : ∀ v ∈ t, v.oneCell' = true) : (frow t 15).all (·.oneCell') = true := by
 refine all_oneCell_toArray (fun v hv => ?_);simp only [List.mem_append] at hv
 rcases hv with hv | hv | hv
 ·rw [List.eq_of_mem_replicate hv]; rfl
 ·rw [List.eq_of_mem_replicate hv]; rfl
 ·exact ht v hv
def tailS : List Value := [.int .u64 0, .bool false, .int .i64 0, .slice none 0 0]
theorem lit_first : (#[.int .u64 0, .int .u64 0, .int .u64 0, .int .u64 0, .int .u64 0, .int .u64 0, .int .u64 0, .int .u64 0, .int .u64 0, .int .u64 0, .int .u64 0, .int .u64 0, .int .u64 0, .int .u64 0, .int .u64 0, .int .u64 0, .bool false, .int .i64 0, .slice none 0 0] : Array Value) = frow tailS 0 := rfl
theorem procSize : (Tryz.prog.info? 121).map (·.size) = some 19 := by kernel_rfl
theorem first_R {w : World} {row : Array Value} {o : Nat} (h : o + 19 ≤ row.size) (h1 : ∀ j, j < 19 → row[o + j]? = (frow tailS 15)[j]?) : SgR w row o Sg.first := by
 refine ⟨h, fun j hj => ?_, ?_, ?_, ?_, none, 0, ?_, Nat.le_refl _, TRd.nil _ _⟩
 ·rw [h1 j (by omega), frow_hnd hj]
  show _ = some (Value.int .u64 ((List.replicate 15 dfl).getD j 0))
  rw [List.getD_eq_getElem?_getD, List.getElem?_replicate, if_pos hj]
  rfl
 ·rw [h1 15 (by omega)]; exact frow_tail 0
 ·rw [h1 16 (by omega)]; exact frow_tail 1
 ·rw [h1 17 (by omega)]; exact frow_tail 2
 ·rw [h1 18 (by omega)]; exact frow_tail 3
theorem atFirst_at (w : World) :
  Calls Tryz.prog 109 #[] w fun x w' => x = .returned (.agg (frow tailS 15)) ∧ Below w.heap.size w w' := by
 have hz := lit_first
 have HSz : Hid (∀ k, k ≤ 15 → (frow tailS k).size = 19) := fun k hk => frow_size hk
 have HSet : Hid (∀ k, k < 15 → (frow tailS k).setIfInBounds k (.int .u64 18446744073709551615) = frow tailS (k + 1)) := fun k hk => frow_set hk
 have HGet : Hid (∀ k, k < 15 → (frow tailS k)[k]? = some (.int .u64 0)) := fun k hk => frow_get hk
 have HOne : Hid ((frow tailS 15).all (·.oneCell') = true) := frow_one (fun v hv => by simp [tailS] at hv; rcases hv with rfl | rfl | rfl | rfl <;> rfl);generalize hF : frow tailS = F at *;clear hF
 go_enter Tryz.func109, Tryz.ntmps109
 go_wp2;clear hz;obtain ⟨W, hW⟩ : ∃ W, W = (w.alloc (.cells (F 0) 121)).alloc (.cells (F 0) 121) := ⟨_, rfl⟩;obtain ⟨r, hr⟩ : ∃ r, r = w.heap.size := ⟨_, rfl⟩;obtain ⟨g, hg⟩ : ∃ g, g = w.heap.size + 1 := ⟨_, rfl⟩
 have HN : Hid (W.heap[g]? = some (.cells (F 0) 121 (0, 0))) := by
  show _ = _
  have := heap_alloc_new (w.alloc (.cells (F 0) 121)) (.cells (F 0) 121);rw [hW, hg]
  simpa using this
 have HM : Hid (W.heap[r]? = some (.cells (F 0) 121 (0, 0))) := by
  rw [hW, hr, Below.heap_alloc _ _ _ (by simp)];exact heap_alloc_new _ _
 have HB : Hid (Below w.heap.size w W) := by rw [hW]; exact below_alloc2 _ _ _
 have HG : Hid (g = r + 1) := by show _ = _; rw [hg, hr]
 have HRw := hid hr;rw [← hW, ← hg, ← hr];clear hW hg hr
 go_loopw [3] (fun s wr => ∃ (k : Nat), k ≤ 15 ∧ s = .int .i64 k ∧ wr.heap[g]? = some (.cells (F k) 121 (0, 0)) ∧ wr.heap[r]? = some (.cells (F 0) 121 (0, 0)) ∧ Below w.heap.size w wr) (fun s _ => 15 - (intOf s).toNat)
 case atStart => exact ⟨0, by omega, rfl, HN.out, HM.out, HB.out⟩
 case round =>
  clear HN HM HB;obtain ⟨k, hk, rfl, hN, hM, hB⟩ := hrel;have HN := hid hN;have HM := hid hM;have HB := hid hB
  by_cases hlt : k < 15
  ·have i1 : decide ((k : Int) < 15) = true := decide_eq_true (by omega)
   have hki : (k : Int) < 15 := by omega
   have c0 : wr.cell? ⟨g, k, none⟩ = some (.int .u64 0) := (cell_of_heap hN).trans (HGet.out k hlt);have f0 : wr.frozen? ⟨g, k, none⟩ = false := frozen_of_heap hN
   have HN2 : Hid ((wr.setCell ⟨g, k, none⟩ (.int .u64 18446744073709551615)).heap[g]? = some (.cells (F (k + 1)) 121 (0, 0))) := by
    show _ = _
    rw [setCell_eq_setRow wr g k _ _ _ _ hN, setRow_heap wr g _ _ _ _ hN, HSet.out k hlt]
   have HM2 : Hid ((wr.setCell ⟨g, k, none⟩ (.int .u64 18446744073709551615)).heap[r]? = some (.cells (F 0) 121 (0, 0))) :=
    (Below.heap_setCell _ _ _ _ (by have := HG.out; show r ≠ g; omega)).trans hM
   have HB2 : Hid (Below w.heap.size w (wr.setCell ⟨g, k, none⟩ (.int .u64 18446744073709551615))) := hB.trans ((Upd.setCell g k _ _).below (by have := HG.out; have := HRw.out; omega) hB.size);clear hN hM hB;go_wp2;go_roundw
   case rel => exact ⟨k + 1, by omega, by go_num, HN2.out, HM2.out, HB2.out⟩
   case measure => simp [intOf]; omega
  ·obtain rfl : k = 15 := by omega
   have i1 : decide (((15 : Nat) : Int) < 15) = false := rfl;have HQ : Hid ((wr.setRow r (F 15)).heap[r]? = some (.cells (F 15) 121 (0, 0))) := setRow_heap _ r _ _ _ _ hM;have HB2 : Hid (Below w.heap.size w (wr.setRow r (F 15))) := hB.trans ((Upd.setRow r _ _).below (by have := HRw.out; omega) hB.size);clear hN hM hB;generalize hR : F 15 = R at *
   have HRs : Hid (R.size = 19) := by show _ = _; rw [← hR]; exact HSz.out 15 (by omega)
   have HR15 := hid hR;clear hR
   go_wp2_with (first
     | (refine wpList_load_row rfl 121 _ rfl g rfl 121 R (0, 0) _ HN.out Tryz.underlying121 rfl (by rw [HRs.out]; exact procSize) ?_)
     | (refine wpList_store_row rfl 121 _ _ rfl r R rfl rfl 121 (F 0) HM.out (by rw [HRs.out]; exact procSize) (by rw [HRs.out, HSz.out 0 (by omega)]) HOne.out ?_)
     | go_in)
   refine bodyPost_ret (v := .agg R) ?_ rfl ⟨by rw [HR15.out], HB2.out⟩;exact results_cell_row rfl _ _ r 121 R (0, 0) _ rfl HQ.out Tryz.underlying121 rfl (by rw [HRs.out]; exact procSize)
end Sg
end Go.Proofs.YtinaeifpoljfoaaGreatDoor
