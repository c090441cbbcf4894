/- The reference of package signals: what Decode has come to, Words of any two lists. -/
import Derived.Test.YtliifpknkdjgjaaRsE
namespace Go.Proofs.Ytliifpknkdjgjaa
open Go.RowKit Go.Lib
set_option linter.unusedVariables false

/-- What the reference takes of a word as what is pending. -/
def mq (x : Nat) : Nat := clr (x % 65536) 0
theorem mq_bit (x j : Nat) (h : j < 15) : (mq x).testBit (j + 1) = x.testBit (j + 1) := by
  unfold mq
  rw [clr_bit (Nat.mod_lt _ (by omega)) (by omega), if_neg (by omega)]
  have := Nat.testBit_mod_two_pow x 16 (j + 1)
  rw [decide_eq_true (by omega), Bool.true_and] at this
  exact this
theorem mq_ok (x : Nat) : QOk (mq x) := ⟨clr_lt (Nat.mod_lt _ (by omega)), by unfold mq; rw [clr_bit (Nat.mod_lt _ (by omega)) (by omega), if_pos rfl]⟩
theorem mq_same {x : Nat} (h : QOk x) : mq x = x := QOk.ext (mq_ok x) h (fun j h1 h2 => by
  obtain ⟨i, rfl⟩ : ∃ i, j = i + 1 := ⟨j - 1, by omega⟩
  exact mq_bit x i (by omega))
theorem shr_bit {x : Int} (h0 : 0 ≤ x) (h1 : x < 18446744073709551616) (i : Nat) : (bits .and .u64 (x / 2 ^ i) 1 == 1) = x.toNat.testBit i := by
  obtain ⟨X, rfl⟩ : ∃ X : Nat, x = (X : Int) := ⟨x.toNat, by omega⟩
  have e : ((X : Int) / 2 ^ i) = ((X / 2 ^ i : Nat) : Int) := by simp
  have hl : X / 2 ^ i < 18446744073709551616 := Nat.lt_of_le_of_lt (Nat.div_le_self _ _) (by omega)
  have h2 := u64_and_nat (X / 2 ^ i) 1 hl (by omega)
  rw [Int.toNat_natCast, e]
  have h3 : bits .and .u64 ((X / 2 ^ i : Nat) : Int) 1 = ((X / 2 ^ i &&& 1 : Nat) : Int) := h2
  rw [h3, Nat.and_one_is_mod, Nat.testBit_eq_decide_div_mod_eq]
  by_cases q : X / 2 ^ i % 2 = 1
  · rw [q, decide_eq_true rfl]
    rfl
  · rw [decide_eq_false q]
    exact beq_false_of_ne (by omega)
/-- A process of which the reference has read j handlers. -/
def part (E : List Int) (x j : Nat) : Sg := ⟨E.take j ++ List.replicate (15 - j) dfl, qlo (mq x) j, none⟩
theorem part_zero (E : List Int) (x : Nat) : part E x 0 = Sg.first := by
  unfold part
  rw [qlo_zero (mq_ok x)]
  rfl
theorem part_all (E : List Int) (x : Nat) : part E x 15 = ⟨E.take 15, mq x, none⟩ := by
  unfold part
  rw [qlo_all (mq_ok x)]
  show (⟨E.take 15 ++ [], _, none⟩ : Sg) = _
  rw [List.append_nil]
theorem part_set {E : List Int} {x j : Nat} {y : Int} (hj : j < 15) (hy : E[j]? = some y) : (part E x j).h.set j y = (part E x (j + 1)).h := by
  have hl : (E.take j).length = j := by rw [List.length_take]; have := (List.getElem?_eq_some_iff.1 hy).1; omega
  show (E.take j ++ List.replicate (15 - j) dfl).set j y = E.take (j + 1) ++ List.replicate (15 - (j + 1)) dfl
  rw [List.set_append_right _ _ (by omega), hl, Nat.sub_self, show 15 - j = (15 - (j + 1)) + 1 by omega, List.replicate_succ, take_snoc hy, List.append_assoc]
  rfl
theorem part_bit (E : List Int) (x j : Nat) (hj : j < 15) : ∀ i, i < 15 → (qlo (mq x) (j + 1)).testBit (i + 1) = if i = j then x.testBit (j + 1) else (part E x j).q.testBit (i + 1) := fun i hi => by
  show _ = if i = j then _ else (qlo (mq x) j).testBit (i + 1)
  rw [qlo_bit, qlo_bit]
  by_cases e : i = j
  · subst e
    rw [if_pos rfl, mq_bit x i hi, decide_eq_true (by omega), Bool.true_and]
  · rw [if_neg e]
    congr 1
    rw [decide_eq_decide]
    omega
theorem part_step {w w1 w2 : World} {row : Array Value} {o x j : Nat} {E : List Int} {y : Int} (h : RgR w row o (part E x j)) (hj : j < 15) (hy : E[j]? = some y) (h1 : KeepW w w1) (h2 : KeepW w1 w2) :
    RgR w2 ((row.setIfInBounds (o + j) (.int .u64 y)).setIfInBounds (o + 15 + j) (.bool (x.testBit (j + 1)))) o (part E x (j + 1)) := by
  have hl : (part E x j).h.length = 15 := by
    show (E.take j ++ List.replicate (15 - j) dfl).length = 15
    rw [List.length_append, List.length_take, List.length_replicate]
    have := (List.getElem?_eq_some_iff.1 hy).1
    omega
  have k1 := h.handler y hj hl h1
  have k2 := k1.bit (q := qlo (mq x) (j + 1)) (x.testBit (j + 1)) hj (part_bit E x j hj) h2
  rw [part_set hj hy] at k2
  exact k2
/-- What reading strictly says, as far as reading freely has come. -/
def Step (D E : List Int) (S : SS) (k : Nat) : Prop := decS D = rdK S (8 - k) E k ∨ decS D = none
theorem Step.bad {D E : List Int} {S : SS} {k : Nat} (h : Step D E S k) (hk : k < 8) (h1 : rd1 E = none) : decS D = none := by
  rcases h with h | h
  · rw [h, show 8 - k = (8 - (k + 1)) + 1 by omega, rdK_none h1]
  · exact h
theorem Step.got {D E : List Int} {S : SS} {k m : Nat} {p : Sg} (h : Step D E S k) (hk : k < 8) (h1 : rd1 E = some (m, p)) : Step D (E.drop m) (S.set k p) (k + 1) := by
  rcases h with h | h
  · left
    rw [h, show 8 - k = (8 - (k + 1)) + 1 by omega, rdK_some h1]
  · exact Or.inr h
theorem Step.skip {D E F : List Int} {S T : SS} {k i : Nat} (h : Step D E S k) (hk : k < 8) (h1 : rd1 E = none) : Step D F T i := Or.inr (h.bad hk h1)
theorem short_none {E : List Int} (h : E.length < 17) : rd1 E = none := by unfold rd1; rw [if_pos h]
theorem eight_none {E : List Int} (h : E.getD 8 0 ≠ dfl) : rd1 E = none := by
  unfold rd1
  by_cases h1 : E.length < 17
  · rw [if_pos h1]
  · rw [if_neg h1, if_pos (Or.inl h)]
theorem vm_none {E : List Int} (h : E.getD 16 0 = 1) (hz : rdV (E.drop 17) = none) : rd1 E = none := by
  unfold rd1
  by_cases h1 : E.length < 17
  · rw [if_pos h1]
  · rw [if_neg h1, h, hz]
    split
    · rfl
    · rw [if_neg (by omega)]; rfl
theorem Step.plain {D E : List Int} {S : SS} {k : Nat} {x15 x16 : Int} (h : Step D E S k) (hk : k < 8) (hl : 17 ≤ E.length) (h8 : E.getD 8 0 = dfl) (h15 : E.getD 15 0 = x15) (h16 : E.getD 16 0 = x16) (p0 : 0 ≤ x15) (p1 : 0 ≤ x16) (hx : x16 ≠ 1) :
    Step D (E.drop 17) (S.set k ⟨E.take 15, mq x15.toNat, none⟩) (k + 1) := by
  cases hq : okQ x15 with
  | true =>
    by_cases h0 : x16 = 0
    · have h1 : rd1 E = some (17, ⟨E.take 15, x15.toNat, none⟩) := by
        unfold rd1
        rw [if_neg (by omega), h15, h16, if_neg (by
          rintro (e | e | e)
          · exact e h8
          · rw [hq] at e; cases e
          · omega), if_pos h0]
      have := h.got hk h1
      rw [mq_same (okQ_nat p0 hq)]
      exact this
    · refine h.skip hk ?_
      unfold rd1
      rw [if_neg (by omega), h15, h16, if_pos (Or.inr (Or.inr (by omega)))]
  | false =>
    refine h.skip hk ?_
    unfold rd1
    rw [if_neg (by omega), h15, h16, if_pos (Or.inr (Or.inl hq))]
theorem Step.full {D E : List Int} {S : SS} {k : Nat} {x15 pc : Int} {st : List Int} (h : Step D E S k) (hk : k < 8) (hl : 17 ≤ E.length) (h8 : E.getD 8 0 = dfl) (h15 : E.getD 15 0 = x15) (h16 : E.getD 16 0 = 1) (p0 : 0 ≤ x15) (hz : rdV (E.drop 17) = some (pc, st)) :
    Step D ((E.drop 17).drop (2 + st.length)) (S.set k ⟨E.take 15, mq x15.toNat, some (pc, st)⟩) (k + 1) := by
  cases hq : okQ x15 with
  | true =>
    have h1 : rd1 E = some (19 + st.length, ⟨E.take 15, x15.toNat, some (pc, st)⟩) := by
      unfold rd1
      rw [if_neg (by omega), h15, h16, if_neg (by
        rintro (e | e | e)
        · exact e h8
        · rw [hq] at e; cases e
        · omega), if_neg (by omega), hz]
      rfl
    have := h.got hk h1
    rw [mq_same (okQ_nat p0 hq), List.drop_drop, show 17 + (2 + st.length) = 19 + st.length by omega]
    exact this
  | false =>
    refine h.skip hk ?_
    unfold rd1
    rw [if_neg (by omega), h15, h16, if_pos (Or.inr (Or.inl hq))]
theorem read_ok {E : List Int} {x15 : Nat} (hu : U64 E) (hl : 17 ≤ E.length) (h8 : E.getD 8 0 = dfl) : (⟨E.take 15, mq x15, none⟩ : Sg).Ok :=
  ⟨by show (E.take 15).length = 15; rw [List.length_take]; omega, by show (E.take 15)[8]? = some dfl; rw [List.getElem?_take_of_lt (by omega), getD_of (w := E) (i := 8) (by omega), h8], fun x hx => hu x (List.mem_of_mem_take hx), mq_ok _, fun pc st e => by cases e⟩
theorem read_okV {E : List Int} {x15 : Nat} {pc : Int} {st : List Int} (hu : U64 E) (hl : 17 ≤ E.length) (h8 : E.getD 8 0 = dfl) (hz : rdV (E.drop 17) = some (pc, st)) : (⟨E.take 15, mq x15, some (pc, st)⟩ : Sg).Ok := by
  have h := read_ok (x15 := x15) hu hl h8
  obtain ⟨e1, e2, e3, e4, e5, e6⟩ := rdV_back (fun x hx => hu x (List.mem_of_mem_drop hx)) hz
  exact ⟨h.len, h.nine, h.u64, h.pend, fun pc' st' e => by cases e; exact ⟨e3, e4, e5, e6⟩⟩
/-- The error of Decode. -/
def deE (D : List Int) : Int := if (decS D).isSome then 0 else 101
theorem deE_no {D : List Int} (h : decS D = none) : deE D = 101 := by unfold deE; rw [h]; rfl
theorem deE_end {D E : List Int} {S : SS} {k : Nat} (h : Step D E S k) (hk : k = 8) (hp : U64 D) (hF : SOk S) (h0 : ∀ j, k ≤ j → S j = Sg.first) : deE D = if decide (encS S = D) then 0 else 101 := by
  subst hk
  by_cases e : encS S = D
  · have : decS D = some S := by rw [← e]; exact dec_enc hF h0
    unfold deE
    rw [this, decide_eq_true e]
    rfl
  · rw [decide_eq_false e]
    refine deE_no ?_
    rcases h with h | h
    · cases hd : decS D with
      | none => rfl
      | some T =>
        exfalso
        rw [hd] at h
        have h2 : T = S := by
          by_cases q : E = []
          · rw [show 8 - 8 = 0 from rfl, rdK, if_pos q] at h
            exact (Option.some.inj h)
          · rw [show 8 - 8 = 0 from rfl, rdK, if_neg q] at h
            cases h
        subst h2
        exact e (dec_back hp hd).1
    · exact h
set_option maxRecDepth 100000 in
/-- l[i:j] of words. -/
theorem cut_wb (D : List Int) (a : Option Addr) (len cap i j : Nat) (hl : len = D.length) (hi : i ≤ j) (hj : j ≤ len) (hcap : len ≤ cap) : ∃ a2 c2, (∀ V, (Instr.slice 28 (.slice a len cap) (some (.int .i64 (i : Int))) (some (.int .i64 (j : Int))) none).run Try.prog V = .ok (.slice a2 (j - i) c2) V) ∧ (∀ W, Rd W a D → Rd W a2 ((D.drop i).take (j - i))) := by
  obtain ⟨i0, hi0, hzz⟩ := Option.map_eq_some_iff.1 wordInfo
  simp only [Prod.mk.injEq] at hzz
  refine ⟨if cap = i then a else a.map (·.add (i * 1)), cap - i, fun V => ?_, fun W ha => ?_⟩
  · have hk0 : (i : Int) ≤ (j : Int) := by omega
    have hk1 : (j : Int) ≤ (cap : Int) := by omega
    rw [run_slice_lh V 28 _ _ _ Try.underlying28 _ _ _ _ (by omega) hk0 hk1]
    simp [sizeOf, typeInfo, elemW, hi0, sliced, hzz.2.1]
  · intro m x hx
    have hm := (List.getElem?_eq_some_iff.1 hx).1
    rw [List.length_take, List.length_drop] at hm
    rw [List.getElem?_take_of_lt (by omega), List.getElem?_drop] at hx
    obtain ⟨g, off, e, hc⟩ := ha (i + m) x hx
    refine ⟨g, off + i, ?_, ?_⟩
    · rw [if_neg (by omega), e]
      simp [Addr.add]
    · rw [Nat.add_assoc]
      exact hc
set_option maxHeartbeats 2000000 in
theorem words_any (D E : List Int) (a b : Option Addr) (ca cb : Nat) (w : World) (ha : Rd w a D) (hb : Rd w b E) (hl : D.length ≤ 1000000) (hl2 : E.length ≤ 1000000) :
    Calls Try.prog 12 #[.slice a D.length ca, .slice b E.length cb] w fun e w' => e = .returned (.bool (decide (D = E))) ∧ Below w.heap.size w w' := by
  by_cases hle : D.length = E.length
  · have HLE : Hid (D.length = E.length) := hle
    rw [← hle]
    have HA : Hid _ := ha
    have HB : Hid _ := hb
    clear ha hb hle hl2
    go_enter Try.func12, Try.ntmps12
    go_wp2
    go_loopw [5] (fun s wr => ∃ (k : Nat), k ≤ D.length ∧ s = .int .i64 k ∧ D.take k = E.take k ∧ Below w.heap.size w wr) (fun s _ => D.length - (intOf s).toNat)
    case atStart => exact ⟨0, by omega, rfl, rfl, Below.refl _ _⟩
    case round =>
      obtain ⟨k, hk, rfl, htk, hbw⟩ := hrel
      have HT : Hid (D.take k = E.take k) := htk
      clear htk
      by_cases hlt : k < D.length
      · obtain ⟨x, hx⟩ : ∃ x, D[k]? = some x := ⟨D[k], List.getElem?_eq_getElem hlt⟩
        obtain ⟨y, hy⟩ : ∃ y, E[k]? = some y := ⟨E[k]'(by rw [← HLE.out]; exact hlt), List.getElem?_eq_getElem _⟩
        obtain ⟨ga, oa, rfl, a0⟩ := (Rd.below HA.out hbw) k x hx
        obtain ⟨gb, ob, rfl, b0⟩ := (Rd.below HB.out hbw) k y hy
        have HX : Hid (D[k]? = some x) := hx
        have HY : Hid (E[k]? = some y) := hy
        clear hx hy
        by_cases hxy : x = y
        · have HT2 : Hid (D.take (k + 1) = E.take (k + 1)) := by
            show _ = _
            rw [List.take_add_one, List.take_add_one, HT.out, HX.out, HY.out, hxy]
          subst hxy
          go_wp2_with fail
          go_region
          all_goals
            go_wp2
            go_roundw
            case rel => exact ⟨k + 1, by omega, by go_num, HT2.out, hbw.drew⟩
            case measure => simp [intOf]; omega
        · have HN : Hid (decide (D = E) = false) := by
            refine decide_eq_false (fun e => ?_)
            have h1 := HX.out
            rw [e, HY.out] at h1
            exact hxy (Option.some.inj h1).symm
          have g0 : (x == y) = false := beq_false_of_ne hxy
          clear hxy
          go_wp2_with fail
          go_region
          all_goals
            go_wp2
            go_ret
            exact ⟨by rw [HN.out]; rfl, hbw.drew⟩
      · have hkd : k = D.length := by omega
        have HN : Hid (decide (D = E) = true) := by
          refine decide_eq_true ?_
          have h1 := HT.out
          rw [hkd, List.take_length, HLE.out, List.take_length] at h1
          exact h1
        have g0 : decide ((k : Int) < (D.length : Int)) = false := decide_eq_false (by omega)
        clear hkd
        go_wp2
        go_ret
        exact ⟨by rw [HN.out]; rfl, hbw⟩
  · have HN : Hid (decide (D = E) = false) := decide_eq_false (fun e => hle (by rw [e]))
    have g0 : ((D.length : Int) == (E.length : Int)) = false := beq_false_of_ne (by omega)
    clear ha hb hle
    go_enter Try.func12, Try.ntmps12
    go_wp2
    go_ret
    exact ⟨by rw [HN.out]; rfl, Below.refl _ _⟩
end Go.Proofs.Ytliifpknkdjgjaa
