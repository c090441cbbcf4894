/- Package signals: Decode. -/
import Derived.Test.YtliifpknkdjgjaaSgK
namespace Go.Proofs.Ytliifpknkdjgjaa
open Go.RowKit Go.Lib
set_option linter.unusedVariables false

/-- A process whose cells are all zero. -/
def Sg.zero : Sg := ⟨List.replicate 15 0, 0, none⟩
theorem flat_get (z : List Value) (L m : Nat) (hz : z.length = L) : ∀ i j, i < m → j < L → ((List.replicate m z).flatten)[i * L + j]? = z[j]? := by
  induction m with
  | zero => intro i j hi; omega
  | succ m ih =>
    intro i j hi hj
    rw [List.replicate_succ, List.flatten_cons]
    cases i with
    | zero => rw [Nat.zero_mul, Nat.zero_add, List.getElem?_append_left (by omega)]
    | succ i =>
      have e : (i + 1) * L + j = L + (i * L + j) := by rw [Nat.add_mul]; omega
      rw [e, List.getElem?_append_right (by omega), hz, Nat.add_sub_cancel_left]
      exact ih i j (by omega) hj
theorem zero_R {w : World} : ∀ i, i < 8 → SgR w srow (i * 19) Sg.zero := by
  intro i hi
  have hs := srow_size
  have h1 : ∀ j, j < 19 → srow[i * 19 + j]? = (frow tailS 0)[j]? := fun j hj => by
    unfold srow
    rw [List.getElem?_toArray, flat_get _ 19 8 rfl i j hi hj, Array.getElem?_toList]
  refine ⟨by omega, fun j hj => ?_, ?_, ?_, ?_, none, 0, ?_, Nat.le_refl _, TRd.nil _ _⟩
  · rw [h1 j (by omega)]
    show _ = some (Value.int .u64 ((List.replicate 15 0).getD j 0))
    unfold frow
    rw [List.getElem?_toArray, List.replicate_zero, List.nil_append, List.getElem?_append_left (by simp; omega), List.getElem?_replicate, if_pos (by omega), List.getD_eq_getElem?_getD, List.getElem?_replicate, if_pos hj]
    rfl
  · rw [h1 15 (by omega)]; rfl
  · rw [h1 16 (by omega)]; rfl
  · rw [h1 17 (by omega)]; rfl
  · rw [h1 18 (by omega)]; rfl
/-- The first k as T says, the others zero. -/
def mixed (T : SS) (k : Nat) : SS := fun i => if i < k then T i else Sg.zero
theorem mixed_next (T : SS) (k : Nat) (p : Sg) : (mixed T k).set k p = mixed (T.set k p) (k + 1) := by
  funext i
  unfold mixed SS.set
  by_cases e : i = k
  · subst e
    rw [if_pos rfl, if_pos (by omega), if_pos rfl]
  · rw [if_neg e]
    show (if i < k then T i else Sg.zero) = _
    by_cases h : i < k
    · rw [if_pos h, if_pos (by omega), if_neg e]
    · rw [if_neg h, if_neg (by omega)]
theorem rd1_len {D : List Int} {m : Nat} {p : Sg} (hu : U64 D) (h : rd1 D = some (m, p)) : m ≤ D.length := (rd1_back hu h).2.1
set_option maxRecDepth 100000 in
set_option maxHeartbeats 4000000 in
theorem decode_at (a : Option Addr) (n cap : Nat) (D : List Int) (w : World) (hr : Rd w a D) (hn : n = D.length) (hcap : n ≤ cap) (hu : U64 D) (hn9 : n ≤ 2000) :
    Calls Try.prog 15 #[.slice a n cap] w fun x w' => (decS D = none → x = .returned (.tuple #[.pointer none, .int .i64 101])) ∧ (∀ S, decS D = some S → x = .returned (.tuple #[.pointer (some ⟨w.heap.size, 0, none⟩), .int .i64 0]) ∧ SgAt w' w.heap.size S) ∧ Below w.heap.size w w' := by
  have hz := zero_sig
  have HR0 : Hid (∀ w, SgRow w srow (mixed SS.first 0)) := fun w => ⟨srow_size, fun i hi => zero_R i hi⟩
  generalize srow = R at *
  have HRd : Hid (Rd w a D) := hr
  have HU : Hid (U64 D) := hu
  have HN : Hid (n = D.length) := hn
  obtain ⟨b, hb⟩ : ∃ b, b = w.heap.size := ⟨_, rfl⟩
  have HBb : Hid (b = w.heap.size) := hb
  clear hr hu hn
  go_enter Try.func15, Try.ntmps15
  go_wp2
  have HN0 : Hid (SB (w.alloc (.cells R 65)) b R) := by rw [hb]; exact heap_alloc_new _ _
  have HB1 : Hid (Below w.heap.size w (w.alloc (.cells R 65))) := below_alloc _ _
  rw [← hb]
  generalize w.alloc (.cells R 65) = W at *
  clear hz hb
  go_loopw [0, 10] (fun s i wr => ∃ (k : Nat) (ak : Option Addr) (nk ck : Nat) (Dk : List Int) (S : SS) (row : Array Value), k ≤ 8 ∧ i = .int .i64 k ∧ .slice ak nk ck = s ∧ nk = Dk.length ∧ nk ≤ ck ∧ nk ≤ 2000 ∧ Rd w ak Dk ∧ U64 Dk ∧ decS D = rdK S (8 - k) Dk k ∧ SB wr b row ∧ SgRow wr row (mixed S k) ∧ Below w.heap.size w wr) (fun _ i _ => 8 - (intOf i).toNat)
  case atStart => exact ⟨0, a, n, cap, D, SS.first, R, by omega, rfl, rfl, HN.out, hcap, hn9, HRd.out, HU.out, rfl, HN0.out, HR0.out _, HB1.out⟩
  case round =>
    clear HN0 HB1 HRd HU HN hcap hn9 HR0
    obtain ⟨k, ak, nk, ck, Dk, S, row, hk, rfl, rfl, hnk, hck, hn9, hRd, hU, hdec, hSB, hSR, hB⟩ := hrel
    have HB : Hid (Below w.heap.size w wr) := hB
    have HDec : Hid (decS D = rdK S (8 - k) Dk k) := hdec
    have HRd : Hid (Rd w ak Dk) := hRd
    have HU : Hid (U64 Dk) := hU
    have HNk : Hid (nk = Dk.length) := hnk
    have HSB : Hid (SB wr b row) := hSB
    have HSR : Hid (SgRow wr row (mixed S k)) := hSR
    by_cases hlt : k < 8
    · have i1 : decide ((k : Int) < 8) = true := decide_eq_true (by omega)
      have hki : (k : Int) < 8 := by omega
      have hRk : SgR wr row (k * 19) Sg.zero := by
        have := hSR.at' k hlt
        unfold mixed at this
        rwa [if_neg (by omega)] at this
      have hne : 0 < nk → ∀ g off, ak = some ⟨g, off, none⟩ → g ≠ b := fun h0 g off e => by
        obtain ⟨g2, off2, e2, hc⟩ := hRd 0 (Dk[0]'(by omega)) (List.getElem?_eq_getElem (by omega))
        rw [e] at e2
        simp only [Option.some.injEq, Addr.mk.injEq, and_true] at e2
        obtain ⟨rfl, rfl⟩ := e2
        have h1 : g < w.heap.size := cell_lt hc
        have := HBb.out
        omega
      have hRe := read_at b (k * 19) Sg.zero row ak nk ck Dk wr hSB hRk rfl (hRd.below (hB.mono (Nat.le_refl _))) hnk hck hU hn9 hne
      rw [show 8 - k = (8 - (k + 1)) + 1 by omega] at HDec
      clear hB hdec hRd hU hnk hSB hSR hRk hne
      go_wp2_with fail
      refine hRe.mono ?_
      rintro x w2 ⟨hx1, hx2, hu2⟩
      have HB2 : Hid (Below w.heap.size w w2) := HB.out.trans (hu2.below (by have := HBb.out; omega) HB.out.size)
      have HK2 : Hid (KeepW wr w2) := HSB.out.kw hu2
      cases hrd : rd1 Dk with
      | none =>
        have hx := hx1 hrd
        have HNN : Hid (decS D = none) := by show _ = _; rw [HDec.out, rdK_none hrd]
        subst hx
        clear hx1 hx2 hu2 hRe hrd HDec
        go_wp2
        go_ret2
        exact ⟨fun _ => rfl, fun T h => (by rw [HNN.out] at h; cases h), HB2.out⟩
      | some z =>
        obtain ⟨m, p⟩ := z
        obtain ⟨hx, row', hB', hR', hS'⟩ := hx2 m p hrd
        have hml := rd1_len HU.out hrd
        have HD2 : Hid (decS D = rdK (S.set k p) (8 - (k + 1)) (Dk.drop m) (k + 1)) := by show _ = _; rw [HDec.out, rdK_some hrd]
        subst hx
        rw [← HNk.out] at hml
        obtain ⟨a2, c2, hcut, hc2, hrd2⟩ := cut_wl Dk ak nk ck m HNk.out hml hck
        have HR2 : Hid (Rd w a2 (Dk.drop m)) := hrd2 w HRd.out
        have HL2 : Hid (nk - m = (Dk.drop m).length) := by show _ = _; rw [List.length_drop, ← HNk.out]
        have HSB2 : Hid (SB w2 b row') := hB'
        have HSR2 : Hid (SgRow w2 row' (mixed (S.set k p) (k + 1))) := by rw [← mixed_next]; exact HSR.out.put hS' hR' HK2.out
        have hn2 : nk - m ≤ 2000 := by omega
        clear hx1 hx2 hu2 hRe hrd HDec hrd2 hB' hR' hS' HB
        generalize nk - m = n2 at *
        go_wp2
        go_roundw
        case rel => exact ⟨k + 1, a2, n2, c2, Dk.drop m, S.set k p, row', by omega, by go_num, rfl, HL2.out, hc2, hn2, HR2.out, HU.out.drop m, HD2.out, HSB2.out, HSR2.out, HB2.out⟩
        case measure => simp [intOf]; omega
    · have i1 : decide ((k : Int) < 8) = false := decide_eq_false (by omega)
      have hk8 : k = 8 := by omega
      have HA : Hid (SgAt wr b S) := ⟨row, hSB, hSR.ext (fun i hi => by unfold mixed; rw [if_pos (by omega)])⟩
      rw [show 8 - k = 0 by omega] at HDec
      by_cases h0 : Dk = []
      · have HS : Hid (decS D = some S) := by show _ = _; rw [HDec.out, rdK, if_pos h0]
        have hz : nk = 0 := by rw [hnk, h0]; rfl
        clear hB hdec hRd hU hnk hSB hSR h0 HNk HRd HU HDec hk8
        subst hz
        go_wp2
        go_ret2
        refine ⟨fun h => (by rw [HS.out] at h; cases h), fun T h => ?_, HB.out⟩
        rw [HS.out] at h
        cases h
        rw [← HBb.out]
        exact ⟨rfl, HA.out⟩
      · have HS : Hid (decS D = none) := by show _ = _; rw [HDec.out, rdK, if_neg h0]
        have hz : nk ≠ 0 := by
          rw [hnk]
          exact fun e => h0 (List.eq_nil_of_length_eq_zero e)
        have g2 : ((nk : Int) == 0) = false := beq_false_of_ne (by omega)
        have g3 : ((nk : Int) != 0) = true := bne_iff_ne.2 (by omega)
        clear hB hdec hRd hU hnk hSB hSR h0 HNk HRd HU HDec hk8
        go_wp2
        go_ret2
        exact ⟨fun _ => rfl, fun T h => (by rw [HS.out] at h; cases h), HB.out⟩
end Go.Proofs.Ytliifpknkdjgjaa
