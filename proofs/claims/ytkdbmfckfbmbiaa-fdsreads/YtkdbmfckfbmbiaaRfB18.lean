/- The reference of package fds: at, free, Left. -/
import Derived.Test.YtkdbmfckfbmbiaaRfA18
namespace Go.Proofs.Ytkdbmfckfbmbiaa
open Go.RowKit
set_option linter.unusedVariables false

theorem any_take_succ {p : Nat → Bool} {d : List Nat} {j k : Nat} (h : d[j]? = some k) : (d.take (j + 1)).any p = ((d.take j).any p || p k) := by
  obtain ⟨hl, he⟩ := List.getElem?_eq_some_iff.1 h
  rw [List.take_succ_eq_append_getElem hl, List.any_append, he]
  simp
set_option maxHeartbeats 2000000 in
theorem rat_at (B c : Nat) (v : Value) (L : List En) (pid fd : Int) (w : World) (h : RIs w B c v L) (hl : L.length ≤ 1000) (hd : ∀ e ∈ L, e.d.length ≤ 1000) :
    Calls Try.prog 42 #[.pointer (some ⟨c, 0, none⟩), .int .i64 pid, .int .i64 fd] w fun e w' => e = .returned (.int .i64 (atL pid fd (L.map En.d))) ∧ w' = w := by
  obtain ⟨av, cv, rfl, hcv⟩ := h.form
  have c0 := h.c0
  generalize hll : L.length = ll at *
  have HLL : Hid (L.length = ll) := hll
  have HR : Hid (RIs w B c (.slice av ll cv) L) := h
  have HD : Hid (∀ e ∈ L, e.d.length ≤ 1000) := hd
  clear h hll hd
  go_enter Try.func42, Try.ntmps42
  go_wp2
  go_loopw [7] (fun s wr => ∃ (i : Nat), i ≤ ll ∧ s = .int .i64 i ∧ Hid (∀ j e, j < i → L[j]? = some e → e.d.any (isK pid fd) = false) ∧ wr = w) (fun s _ => ll - (intOf s).toNat)
  case atStart => exact ⟨0, by omega, rfl, (show Hid _ from fun j e hj => absurd hj (Nat.not_lt_zero _)), rfl⟩
  case round =>
    obtain ⟨i, hi, rfl, HN, hw⟩ := hrel
    subst hw
    by_cases hlt : i < ll
    · obtain ⟨e, he⟩ : ∃ e, L[i]? = some e := ⟨L[i]'(by rw [HLL.out]; exact hlt), List.getElem?_eq_getElem _⟩
      obtain ⟨g, cap, e1, _, _, hc⟩ := HR.out.at he
      simp only [Value.slice.injEq] at e1
      obtain ⟨rfl, _, rfl⟩ := e1
      have d5 : wr.cell? ⟨g, i * 6 + 5, none⟩ = some (.slice e.a e.d.length e.cap) := hc 5 (by omega)
      obtain ⟨hrd, hcp⟩ := HR.out.rd e (List.mem_of_getElem? he)
      have hdl := HD.out e (List.mem_of_getElem? he)
      have hii : (i : Int) < (ll : Int) := by omega
      have i1 : decide ((i : Int) < (ll : Int)) = true := decide_eq_true hii
      have HE : Hid (L[i]? = some e) := he
      have HRd : Hid (PRd wr e.a e.d) := hrd
      clear he hc hrd
      generalize hdd : e.d = dd at *
      have HDD : Hid (e.d = dd) := hdd
      generalize e.a = ea at *
      generalize e.cap = ecap at *
      generalize hdn : dd.length = dn at *
      have HDN : Hid (dd.length = dn) := hdn
      clear hdd hdn
      go_wp2
      go_loopw [8] (fun s wr' => ∃ (k : Nat), k ≤ dn ∧ s = .int .i64 k ∧ Hid ((dd.take k).any (isK pid fd) = false) ∧ wr' = wr) (fun s _ => dn - (intOf s).toNat)
      case atStart => exact ⟨0, by omega, rfl, (show Hid _ from rfl), rfl⟩
      case round =>
        obtain ⟨k, hk, rfl, HT, hw⟩ := hrel
        subst hw
        by_cases hlk : k < dn
        · obtain ⟨x, hx⟩ : ∃ x, dd[k]? = some x := ⟨dd[k]'(by rw [HDN.out]; exact hlk), List.getElem?_eq_getElem _⟩
          obtain ⟨gd, rfl, _, p0, p1⟩ := HRd.out k x hx
          have hki : (k : Int) < (dn : Int) := by omega
          have hpe := pair_eq ((x / 6 + 1 : Nat) : Int) ((x % 6 : Nat) : Int) pid fd
          have HT2 : Hid ((dd.take (k + 1)).any (isK pid fd) = isK pid fd x) := by show _ = _; rw [any_take_succ hx, HT.out]; rfl
          rw [isK_def] at hpe
          generalize ((x / 6 + 1 : Nat) : Int) = xa at *
          generalize ((x % 6 : Nat) : Int) = xb at *
          cases hb : isK pid fd x with
          | true =>
            have HA : Hid (atL pid fd (L.map En.d) = i) := by
              refine atL_at (d := dd) (by rw [List.getElem?_map, HE.out]; exact congrArg some HDD.out) ?_ (fun j d hj hjd => ?_)
              · rw [List.any_eq_true]
                exact ⟨x, List.mem_of_getElem? hx, hb⟩
              · rw [List.getElem?_map, Option.map_eq_some_iff] at hjd
                obtain ⟨e', he', rfl⟩ := hjd
                exact HN.out j e' hj he'
            rw [hb] at hpe
            clear hx hb HT HT2 HN
            go_wp2
            go_ret
            exact ⟨by rw [HA.out]; rfl, rfl⟩
          | false =>
            rw [hb] at hpe HT2
            clear hx hb HT
            go_wp2
            go_roundw
            case rel => exact ⟨k + 1, by omega, by go_num, HT2, by first | rfl | trivial⟩
            case measure => simp [intOf]; omega
        · have HT3 : Hid (∀ j e, j < i + 1 → L[j]? = some e → e.d.any (isK pid fd) = false) := fun j e' hj he' => by
            rcases Nat.lt_or_ge j i with q | q
            · exact HN.out j e' q he'
            · have : j = i := by omega
              rw [this, HE.out] at he'
              have e2 := Option.some.inj he'
              rw [← e2, HDD.out]
              have h9 := HT.out
              rwa [List.take_of_length_le (by have := HDN.out; omega)] at h9
          have hkk : decide ((k : Int) < (dn : Int)) = false := decide_eq_false (by omega)
          clear HT HN
          go_wp2
          go_roundw
          case rel => exact ⟨i + 1, by omega, by go_num, HT3, by first | rfl | trivial⟩
          case measure => simp [intOf]; omega
    · obtain rfl : i = ll := by omega
      have HA : Hid (atL pid fd (L.map En.d) = -1) := by
        refine atL_no (fun d hd => ?_)
        rw [List.mem_map] at hd
        obtain ⟨e, he, rfl⟩ := hd
        obtain ⟨j, hj⟩ := List.mem_iff_getElem?.1 he
        exact HN.out j e (by rw [← HLL.out]; exact (List.getElem?_eq_some_iff.1 hj).1) hj
      go_wp2
      go_ret
      exact ⟨by rw [HA.out]; rfl, rfl⟩
end Go.Proofs.Ytkdbmfckfbmbiaa
