/- Package pipes: a ring's put, bytes, take, empty. -/
import Derived.Test.YtpnmaoinnmmfdaaPpA
import Derived.Laws.IdiomStrings
namespace Go.Proofs.Ytpnmaoinnmmfdaa
open Go.RowKit Go.Lib
set_option linter.unusedVariables false

/-- A text as a value. -/
abbrev tx (l : List UInt8) : Value := .string ⟨l.toArray⟩
theorem text_of (s : ByteArray) : ∃ l : List UInt8, s = ⟨l.toArray⟩ ∧ s.size = l.length := ⟨s.data.toList, by simp, by show s.data.size = s.data.toList.length; simp⟩
theorem tx_index (l : List UInt8) (j : Nat) (h : j < l.length) (W : World) : (Instr.index 9 (tx l) (.int .i64 (j : Int))).run Try.prog W = .ok (.int .u8 (byt l j)) W := by
  rw [run_index_string W _ _ _ _ Try.underlying9]
  rw [dif_pos (by simp [ByteArray.size]; omega)]
  rw [byt_get (List.getElem?_eq_getElem h)]
  have h1 : (ByteArray.mk l.toArray)[((j : Int)).toNat]'(by simp [ByteArray.size]; omega) = l[j] := by
    show l.toArray[((j : Int)).toNat]'_ = _
    simp
  rw [h1]
/-- Two rows are the same but for the ring at o. -/
def Same (o : Nat) (row row' : Array Value) : Prop := row'.size = row.size ∧ ∀ i, (i < o ∨ o + 17 ≤ i) → row'[i]? = row[i]?
theorem Same.refl (o : Nat) (row : Array Value) : Same o row row := ⟨rfl, fun _ _ => rfl⟩
theorem Same.trans {o : Nat} {a b c : Array Value} (h : Same o a b) (k : Same o b c) : Same o a c := ⟨k.1.trans h.1, fun i hi => (k.2 i hi).trans (h.2 i hi)⟩
theorem Same.set {o : Nat} (row : Array Value) (i : Nat) (v : Value) (h1 : o ≤ i) (h2 : i < o + 17) : Same o row (row.setIfInBounds i v) :=
  ⟨by simp, fun k hk => by rw [Array.getElem?_setIfInBounds, if_neg (by omega)]⟩
theorem take_snoc {s : List UInt8} {k : Nat} {x : UInt8} (h : s[k]? = some x) : s.take (k + 1) = s.take k ++ [x] := by
  rw [List.take_add_one, h]
  rfl

set_option maxRecDepth 100000 in
set_option maxHeartbeats 4000000 in
theorem rput_at (b o e : Nat) (l s : List UInt8) (row : Array Value) (w : World) (hb : PB w b row) (hr : Ring row o e l) :
    Calls Try.prog 26 #[.pointer (some ⟨b, o, none⟩), tx s] w fun x w' => x = .returned (.int .i64 (putN l s)) ∧ ∃ row', PB w' b row' ∧ Ring row' o e (putL l s) ∧ Same o row row' ∧ Upd b w w' := by
  have hL := length_at b o e l row w hb hr
  have HH : Hid (PB w b row) := hb
  have HR : Hid (Ring row o e l) := hr
  have hl8 := hr.len
  have hsz : (ByteArray.mk s.toArray).size = s.length := by simp [ByteArray.size]
  have hN : min (s.length : Int) (8 - (l.length : Int)) = (putN l s : Int) := by unfold putN; omega
  have HP : Hid (putL l s = l ++ s.take (putN l s)) := by
    show _ = _
    unfold putL putN
    rw [List.append_cancel_left_eq]
    rcases Nat.le_total s.length (8 - l.length) with q | q
    · rw [Nat.min_eq_left q, List.take_of_length_le q, List.take_length]
    · rw [Nat.min_eq_right q]
  have hn8 : putN l s ≤ 8 - l.length ∧ putN l s ≤ s.length := by unfold putN; omega
  have hwl : IntKind.i64.wrap (8 - (l.length : Int)) = 8 - (l.length : Int) := by simp [IntKind.wrap, IntKind.bits, IntKind.signed]; omega
  generalize putN l s = n at *
  generalize hq : l.length = L at *
  have HQ : Hid (l.length = L) := hq
  generalize hq2 : s.length = sl at *
  have HQ2 : Hid (s.length = sl) := hq2
  obtain ⟨hn8, hns⟩ := hn8
  clear hb hr hq hq2
  go_enter Try.func26, Try.ntmps26
  go_wp2_with fail
  refine hL.mono ?_
  rintro x w1 ⟨rfl, hb1⟩
  have HB1 : Hid (Below w.heap.size w w1) := hb1
  clear hL hb1
  go_wp2
  go_loopw [16] (fun i wr => ∃ (k : Nat) (row' : Array Value), k ≤ n ∧ i = .int .i64 k ∧ PB wr b row' ∧ Ring row' o e (l ++ s.take k) ∧ Same o row row' ∧ Upd b w wr) (fun i _ => n - (intOf i).toNat)
  case atStart => exact ⟨0, row, by omega, rfl, HH.out.below HB1.out, by simpa using HR.out, Same.refl _ _, Upd.of_below HB1.out⟩
  case round =>
    clear HB1 hN
    obtain ⟨k, row', hk, rfl, hP, hRg, hSm, hU⟩ := hrel
    have HPB : Hid (PB wr b row') := hP
    have HRg : Hid (Ring row' o e (l ++ s.take k)) := hRg
    have HSm : Hid (Same o row row') := hSm
    have HU : Hid (Upd b w wr) := hU
    by_cases hlt : k < n
    · have g0 : decide ((k : Int) < (n : Int)) = true := decide_eq_true (by omega)
      have hks : k < s.length := by rw [HQ2.out]; omega
      have hlen : (l ++ s.take k).length = L + k := by rw [List.length_append, List.length_take, HQ.out]; omega
      have hA := at_at b o e (L + k) _ row' wr.drew hP.drew hRg (by omega)
      have hix := tx_index s k hks
      have hsum : IntKind.i64.wrap ((L : Int) + (k : Int)) = (L : Int) + (k : Int) := by simp [IntKind.wrap, IntKind.bits, IntKind.signed]; omega
      have c0 : wr.drew.drew.cell? ⟨b, o + (e + (L + k)) % 8 * 2, none⟩ = _ := (hP.drew.drew.cell _).trans (hRg.used (L + k) (by omega))
      have c1 : wr.drew.drew.cell? ⟨b, o + (e + (L + k)) % 8 * 2 + 1, none⟩ = _ := (hP.drew.drew.cell _).trans (hRg.val (L + k) (by omega))
      have f0 : wr.drew.drew.frozen? ⟨b, o + (e + (L + k)) % 8 * 2, none⟩ = false := hP.drew.drew.free _
      have f1 : wr.drew.drew.frozen? ⟨b, o + (e + (L + k)) % 8 * 2 + 1, none⟩ = false := hP.drew.drew.free _
      obtain ⟨x, hx⟩ : ∃ x, s[k]? = some x := ⟨s[k], List.getElem?_eq_getElem hks⟩
      have HT : Hid (s.take (k + 1) = s.take k ++ [x]) := take_snoc hx
      rw [byt_get hx] at hix
      have HNew := hRg.snoc x (by omega)
      rw [hlen] at HNew
      rw [decide_eq_false (by omega)] at c0
      rw [byt_no (by omega)] at c1
      rw [Int.natCast_add] at hA
      have hpp : (e + (L + k)) % 8 < 8 := by omega
      generalize (e + (L + k)) % 8 = p at *
      generalize hxx : (x.toNat : Int) = xn at *
      have HN : Hid (Ring ((row'.setIfInBounds (o + p * 2) (.bool true)).setIfInBounds (o + p * 2 + 1) (.int .u8 xn)) o e ((l ++ s.take k) ++ [x])) := HNew
      clear hP hRg hSm hU hx hlen HNew hxx
      go_wp2_with fail
      have c0' : wr.cell? ⟨b, o + p * 2, none⟩ = _ := c0
      have c1' : wr.cell? ⟨b, o + p * 2 + 1, none⟩ = _ := c1
      have f0' : wr.frozen? ⟨b, o + p * 2, none⟩ = false := f0
      have f1' : wr.frozen? ⟨b, o + p * 2 + 1, none⟩ = false := f1
      go_region_with (go_at_call 34; refine hA.mono ?_; rintro x2 w2 ⟨rfl, hw⟩; rw [hw]; clear hw w2)
      all_goals
        go_wp2
        go_roundw
        case rel =>
          refine ⟨k + 1, _, by omega, by go_num, PB.set (PB.set (PB.drew (PB.drew HPB.out)) _ _) _ _, ?_, HSm.out.trans ((Same.set _ _ _ (by omega) (by omega)).trans (Same.set _ _ _ (by omega) (by omega))), HU.out.trans (((Upd.drew b _).trans (Upd.drew b _)).trans ((Upd.setCell _ _ _ _).trans (Upd.setCell _ _ _ _)))⟩
          rw [HT.out, ← List.append_assoc]
          exact HN.out
        case measure => simp [intOf]; omega
    · obtain rfl : k = n := by omega
      have g0 : decide ((k : Int) < (k : Int)) = false := decide_eq_false (by omega)
      clear hP hRg hSm hU
      go_wp2
      go_ret
      refine ⟨rfl, row', HPB.out, ?_, HSm.out, HU.out⟩
      rw [HP.out]
      exact HRg.out
end Go.Proofs.Ytpnmaoinnmmfdaa
