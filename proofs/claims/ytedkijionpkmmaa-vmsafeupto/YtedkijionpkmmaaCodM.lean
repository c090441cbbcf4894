/- Instructions as bytes, in plain lists: what package code and its reference reckon; no program is named here. -/
import Derived.WalkKit
namespace Go.Proofs.Ytedkijionpkmmaa
set_option linter.unusedVariables false

/-- How many bytes stand behind an operation's. -/
def opw (op : Int) : Nat := if op = 0 ∨ op = 23 then 1 else if op = 21 ∨ op = 22 then 2 else if op = 1 then 8 else 0
theorem opw_le (op : Int) : opw op ≤ 8 := by unfold opw; split <;> (try split) <;> (try split) <;> omega
theorem opw_ne3 (op : Int) : opw op = 0 ∨ opw op = 1 ∨ opw op = 2 ∨ opw op = 8 := by unfold opw; split <;> (try split) <;> (try split) <;> omega

/-- An instruction. -/
structure Ins where
  op : Int
  arg : Int
  pos : Int
  len : Int
/-- What comes in: an Arg is a word. -/
def Ins.Fit (i : Ins) : Prop := (-9223372036854775808 ≤ i.op ∧ i.op ≤ 9223372036854775807) ∧ (0 ≤ i.arg ∧ i.arg ≤ 18446744073709551615) ∧ (-9223372036854775808 ≤ i.pos ∧ i.pos ≤ 9223372036854775807) ∧ (-9223372036854775808 ≤ i.len ∧ i.len ≤ 9223372036854775807)

/-- The lowest byte of a number. -/
def byteOf (a : Int) : UInt8 := UInt8.ofNat (a % 256).toNat
theorem byteOf_toNat (a : Int) : ((byteOf a).toNat : Int) = a % 256 := by
  have h1 : 0 ≤ a % 256 := Int.emod_nonneg _ (by decide)
  have h2 : a % 256 < 256 := Int.emod_lt_of_pos _ (by decide)
  unfold byteOf
  rw [UInt8.toNat_ofNat']
  omega
theorem byteOf_ofNat (b : UInt8) (x : Int) : byteOf ((b.toNat : Int) + 256 * x) = b := by
  apply UInt8.toNat_inj.1
  have h := byteOf_toNat ((b.toNat : Int) + 256 * x)
  have := b.toNat_lt
  omega

/-- A number's lowest bytes, the lowest first. -/
def leB : Nat → Int → List UInt8
  | 0, _ => []
  | n + 1, a => byteOf a :: leB n (a / 256)
/-- The number whose bytes these are, the lowest first. -/
def leN : List UInt8 → Int
  | [] => 0
  | b :: l => (b.toNat : Int) + 256 * leN l

theorem leB_len : ∀ (n : Nat) (a : Int), (leB n a).length = n
  | 0, _ => rfl
  | n + 1, a => by simp [leB, leB_len n]
theorem pow_pos256 (n : Nat) : (0 : Int) < 256 ^ n := Int.pow_pos (by decide)
theorem div_div (a : Int) (n : Nat) : a / 256 / 256 ^ n = a / 256 ^ (n + 1) := by
  rw [Int.ediv_ediv_of_nonneg (by decide : (0 : Int) ≤ 256), Int.pow_succ, Int.mul_comm]
theorem leB_snoc : ∀ (n : Nat) (a : Int), leB (n + 1) a = leB n a ++ [byteOf (a / 256 ^ n)]
  | 0, a => by simp [leB]
  | n + 1, a => by
    rw [leB, leB_snoc n (a / 256), div_div]
    simp [leB]
theorem leN_snoc : ∀ (l : List UInt8) (b : UInt8), leN (l ++ [b]) = leN l + (b.toNat : Int) * 256 ^ l.length
  | [], b => by simp [leN]
  | c :: l, b => by
    rw [List.cons_append, leN, leN, leN_snoc l b, List.length_cons, Int.pow_succ, Int.mul_add, Int.add_assoc]
    congr 2
    rw [← Int.mul_assoc, ← Int.mul_assoc, Int.mul_comm 256 (b.toNat : Int), Int.mul_assoc, Int.mul_assoc, Int.mul_comm 256]
theorem leN_bound : ∀ (l : List UInt8), 0 ≤ leN l ∧ leN l < 256 ^ l.length
  | [] => by simp [leN]
  | c :: l => by
    have h := leN_bound l
    have := c.toNat_lt
    rw [leN, List.length_cons, Int.pow_succ]
    omega
theorem leN_leB : ∀ (n : Nat) (a : Int), 0 ≤ a → a < 256 ^ n → leN (leB n a) = a
  | 0, a, h0, h1 => by simp [leB, leN] at h1 ⊢; omega
  | n + 1, a, h0, h1 => by
    rw [Int.pow_succ] at h1
    rw [leB, leN, byteOf_toNat, leN_leB n (a / 256) (by omega) (by omega)]
    omega
theorem leB_leN : ∀ (l : List UInt8), leB l.length (leN l) = l
  | [] => rfl
  | c :: l => by
    have := c.toNat_lt
    have hd : ((c.toNat : Int) + 256 * leN l) / 256 = leN l := by omega
    rw [List.length_cons, leB, leN, byteOf_ofNat, hd, leB_leN l]

/-- An instruction that can be written. -/
def good (i : Ins) : Bool := decide (0 ≤ i.op) && decide (i.op ≤ 23) && decide (i.arg / 256 ^ opw i.op = 0)
theorem good_iff (i : Ins) : good i = true ↔ 0 ≤ i.op ∧ i.op ≤ 23 ∧ i.arg / 256 ^ opw i.op = 0 := by simp [good, and_assoc]
theorem div_zero_iff {a m : Int} (h0 : 0 ≤ a) (hm : 0 < m) : a / m = 0 ↔ a < m := by
  constructor
  · intro h
    have := Int.lt_ediv_add_one_mul_self a hm
    rw [h] at this
    omega
  · intro h
    exact Int.ediv_eq_zero_of_lt h0 h
/-- Its bytes. -/
def enc1 (i : Ins) : List UInt8 := byteOf i.op :: leB (opw i.op) i.arg
def encs (l : List Ins) : List UInt8 := l.flatMap enc1
theorem enc1_len (i : Ins) : (enc1 i).length = 1 + opw i.op := by simp [enc1, leB_len]; omega
theorem encs_snoc (l : List Ins) (i : Ins) : encs (l ++ [i]) = encs l ++ enc1 i := by simp [encs]
theorem encs_len : ∀ (l : List Ins), (encs l).length ≤ 9 * l.length
  | [] => by simp [encs]
  | i :: l => by
    have h := encs_len l
    have := opw_le i.op
    have e : encs (i :: l) = enc1 i ++ encs l := rfl
    rw [e, List.length_append, enc1_len, List.length_cons]
    omega

/-- The byte at a place. -/
def byteAt (s : List UInt8) (k : Nat) : UInt8 := s.getD k 0
/-- What no instruction is. -/
def noIns : Ins := ⟨0, 0, 0, 0⟩
/-- The width of the operand at a place. -/
def wAt (s : List UInt8) (k : Nat) : Nat := opw (byteAt s k).toNat
/-- Whether an instruction begins at a place within the text. -/
def isIns (s : List UInt8) (k : Nat) : Bool := decide ((byteAt s k).toNat ≤ 23) && decide (k + 1 + wAt s k ≤ s.length)
/-- The instruction at a place. -/
def insAt (s : List UInt8) (k : Nat) : Ins := ⟨(byteAt s k).toNat, leN ((s.drop (k + 1)).take (wAt s k)), k, 1 + wAt s k⟩
/-- One's answer. -/
def one (s : List UInt8) (a : Int) : Ins × Int :=
  if a < 0 ∨ (s.length : Int) ≤ a then (noIns, 101) else if isIns s a.toNat then (insAt s a.toNat, 0) else (noIns, 8)
theorem one_in (s : List UInt8) (k : Nat) (h : k < s.length) : one s k = if isIns s k then (insAt s k, 0) else (noIns, 8) := by
  unfold one
  rw [if_neg (by omega), Int.toNat_natCast]
theorem one_out (s : List UInt8) (a : Int) (h : a < 0 ∨ (s.length : Int) ≤ a) : one s a = (noIns, 101) := by
  unfold one
  rw [if_pos h]

/-- All instructions from a place on, so many at most. -/
def decN (s : List UInt8) : Nat → Nat → Option (List Ins)
  | 0, _ => some []
  | n + 1, k => if k < s.length then (if isIns s k then (decN s n (k + 1 + wAt s k)).map (insAt s k :: ·) else none) else some []
theorem decN_more (s : List UInt8) : ∀ (a b k : Nat), s.length - k ≤ a → s.length - k ≤ b → decN s a k = decN s b k
  | 0, 0, _, _, _ => rfl
  | 0, b + 1, k, ha, _ => by rw [decN, decN, if_neg (by omega)]
  | a + 1, 0, k, _, hb => by rw [decN, decN, if_neg (by omega)]
  | a + 1, b + 1, k, ha, hb => by
    rw [decN, decN]
    by_cases h : k < s.length
    · rw [if_pos h, if_pos h, decN_more s a b (k + 1 + wAt s k) (by omega) (by omega)]
    · rw [if_neg h, if_neg h]
/-- All instructions from a place on. -/
def decAt (s : List UInt8) (k : Nat) : Option (List Ins) := decN s (s.length - k) k
theorem decAt_end (s : List UInt8) (k : Nat) (h : ¬ k < s.length) : decAt s k = some [] := by
  have e : s.length - k = 0 := by omega
  rw [decAt, e, decN]
theorem decAt_eq (s : List UInt8) (k : Nat) (h : k < s.length) : decAt s k = if isIns s k then (decAt s (k + 1 + wAt s k)).map (insAt s k :: ·) else none := by
  obtain ⟨n, hn⟩ : ∃ n, s.length - k = n + 1 := ⟨s.length - k - 1, by omega⟩
  rw [decAt, hn, decN, if_pos h, decAt, decN_more s n (s.length - (k + 1 + wAt s k)) (k + 1 + wAt s k) (by omega) (by omega)]
theorem decAt_bad (s : List UInt8) (k : Nat) (h : k < s.length) (hb : isIns s k = false) : decAt s k = none := by rw [decAt_eq s k h, hb]; rfl
theorem decAt_step (s : List UInt8) (k : Nat) (h : k < s.length) (hb : isIns s k = true) : decAt s k = (decAt s (k + 1 + wAt s k)).map (insAt s k :: ·) := by rw [decAt_eq s k h, hb]; rfl
theorem isIns_bound {s : List UInt8} {k : Nat} (h : isIns s k = true) : (byteAt s k).toNat ≤ 23 ∧ k + 1 + wAt s k ≤ s.length := by simpa [isIns] using h

theorem insAt_fit (s : List UInt8) (k : Nat) (h : isIns s k = true) (hl : s.length ≤ 9223372036854775807) : (insAt s k).Fit := by
  have hb := isIns_bound h
  have hw : wAt s k ≤ 8 := opw_le _
  have hn := leN_bound ((s.drop (k + 1)).take (wAt s k))
  have hlen : ((s.drop (k + 1)).take (wAt s k)).length = wAt s k := by simp; omega
  rw [hlen] at hn
  have hp : (256 : Int) ^ wAt s k ≤ 256 ^ 8 := by
    rcases opw_ne3 (byteAt s k).toNat with h | h | h | h <;> (unfold wAt; rw [h]; decide)
  have h8 : (256 : Int) ^ 8 = 18446744073709551616 := by decide
  refine ⟨?_, ?_, ?_, ?_⟩ <;> simp only [insAt] <;> omega

/-- There: the places of what was written. -/
def place : List Ins → Nat → List Ins
  | [], _ => []
  | i :: l, k => ⟨i.op, i.arg, k, 1 + opw i.op⟩ :: place l (k + 1 + opw i.op)
theorem place_len : ∀ (l : List Ins) (k : Nat), (place l k).length = l.length
  | [], _ => rfl
  | i :: l, k => by simp [place, place_len l]

theorem dec_enc : ∀ (l : List Ins) (pre : List UInt8), (∀ i ∈ l, good i = true ∧ 0 ≤ i.arg) → decAt (pre ++ encs l) pre.length = some (place l pre.length)
  | [], pre, _ => by rw [decAt_end]; rfl; simp [encs]
  | i :: l, pre, h => by
    obtain ⟨hg, ha⟩ := h i (by simp)
    obtain ⟨h1, h2, h3⟩ := (good_iff i).1 hg
    have h4 := (div_zero_iff ha (pow_pos256 _)).1 h3
    have e : pre ++ encs (i :: l) = pre ++ (byteOf i.op :: (leB (opw i.op) i.arg ++ encs l)) := by simp [encs, enc1]
    have hlt : pre.length < (pre ++ encs (i :: l)).length := by rw [e]; simp
    have hb : byteAt (pre ++ encs (i :: l)) pre.length = byteOf i.op := by rw [e, byteAt]; simp
    have hbn : ((byteOf i.op).toNat : Int) = i.op := by rw [byteOf_toNat]; omega
    have hw : wAt (pre ++ encs (i :: l)) pre.length = opw i.op := by rw [wAt, hb, hbn]
    have hi : isIns (pre ++ encs (i :: l)) pre.length = true := by
      unfold isIns
      rw [hw, hb, e]
      simp [leB_len]
      omega
    have hx : insAt (pre ++ encs (i :: l)) pre.length = ⟨i.op, i.arg, pre.length, 1 + opw i.op⟩ := by
      unfold insAt
      rw [hw, hb, hbn]
      have hd : ((pre ++ encs (i :: l)).drop (pre.length + 1)).take (opw i.op) = leB (opw i.op) i.arg := by
        rw [e]
        have : (pre ++ byteOf i.op :: (leB (opw i.op) i.arg ++ encs l)).drop (pre.length + 1) = leB (opw i.op) i.arg ++ encs l := by
          rw [← List.drop_drop]; simp
        rw [this, List.take_append_of_le_length (by rw [leB_len]; exact Nat.le_refl _), List.take_of_length_le (by rw [leB_len]; exact Nat.le_refl _)]
      rw [hd, leN_leB _ _ ha h4]
    rw [decAt_step _ _ hlt hi, hx, hw]
    have hrec := dec_enc l (pre ++ enc1 i) (fun j hj => h j (by simp [hj]))
    have e2 : pre ++ enc1 i ++ encs l = pre ++ encs (i :: l) := by simp [encs]
    have e3 : (pre ++ enc1 i).length = pre.length + 1 + opw i.op := by rw [List.length_append, enc1_len]; omega
    rw [e2, e3] at hrec
    rw [hrec]
    rfl

theorem drop_cons_byte (s : List UInt8) (k : Nat) (h : k < s.length) : s.drop k = byteAt s k :: s.drop (k + 1) := by
  rw [List.drop_eq_getElem_cons h, byteAt, List.getD_eq_getElem?_getD, List.getElem?_eq_getElem h]
  rfl

theorem enc_dec (s : List UInt8) : ∀ (n k : Nat), s.length - k ≤ n → k ≤ s.length → ∀ l, decAt s k = some l → (∀ i ∈ l, good i = true) ∧ encs l = s.drop k
  | n, k, hn, hk, l, h => by
    by_cases hlt : k < s.length
    · cases hb : isIns s k with
      | false => rw [decAt_bad s k hlt hb] at h; cases h
      | true =>
        rw [decAt_step s k hlt hb] at h
        obtain ⟨l', hl', rfl⟩ := Option.map_eq_some_iff.1 h
        obtain ⟨h23, hend⟩ := isIns_bound hb
        match n, hn with
        | 0, hn => omega
        | n + 1, hn =>
          obtain ⟨r1, r2⟩ := enc_dec s n (k + 1 + wAt s k) (by omega) hend l' hl'
          have hlen : ((s.drop (k + 1)).take (wAt s k)).length = wAt s k := by simp; omega
          have hnb := leN_bound ((s.drop (k + 1)).take (wAt s k))
          rw [hlen] at hnb
          have hg : good (insAt s k) = true := (good_iff _).2 ⟨by simp [insAt], by simp only [insAt]; omega, by
            show leN ((s.drop (k + 1)).take (wAt s k)) / 256 ^ wAt s k = 0
            exact Int.ediv_eq_zero_of_lt hnb.1 hnb.2⟩
          refine ⟨fun i hi => ?_, ?_⟩
          · rcases List.mem_cons.1 hi with rfl | hi
            · exact hg
            · exact r1 i hi
          · have e : encs (insAt s k :: l') = enc1 (insAt s k) ++ encs l' := rfl
            have e1 : enc1 (insAt s k) = byteAt s k :: (s.drop (k + 1)).take (wAt s k) := by
              have hb0 : byteOf (byteAt s k).toNat = byteAt s k := by have := byteOf_ofNat (byteAt s k) 0; simpa using this
              have := leB_leN ((s.drop (k + 1)).take (wAt s k))
              rw [hlen] at this
              show byteOf ((byteAt s k).toNat : Int) :: leB (wAt s k) (leN ((s.drop (k + 1)).take (wAt s k))) = _
              rw [hb0, this]
            rw [e, e1, r2, drop_cons_byte s k hlt, List.cons_append]
            congr 1
            have e2 : s.drop (k + 1 + wAt s k) = (s.drop (k + 1)).drop (wAt s k) := by rw [List.drop_drop]
            rw [e2, List.take_append_drop]
    · rw [decAt_end s k hlt] at h
      cases h
      refine ⟨by simp, ?_⟩
      simp [encs]
      omega

end Go.Proofs.Ytedkijionpkmmaa
