/- The reference of package fds: free, Left, Get, Seek. -/
/- Package fds: Ids of the code and of the reference are the same; when all places are taken. Plain. -/
/- The reference of package fds: Open: its last part, whatever the order. -/
import Derived.Test.YtnlhedpfhgoncabGreatDoorRfE18
import Derived.Test.YtnlhedpfhgoncabGreatDoorFdMTFdC
import Derived.Test.YtnlhedpfhgoncabGreatDoorFdDTFdF
import Derived.Test.YtnlhedpfhgoncabGreatDoorOwnR
import Derived.Test.YtnlhedpfhgoncabGreatDoorFdKTFdS
import Derived.Test.YtnlhedpfhgoncabGreatDoorFdHTFdJ
import Derived.Deep.RegionLaw
import Derived.Laws.AppendOwnNone
import Derived.Lib.SmallJoins
import Derived.Deep.RegionHeld3
set_option linter.all false
namespace Go.Proofs.YtnlhedpfhgoncabGreatDoor
open Go.RowKit
namespace Ow
end Ow
namespace Fd
open Ow
theorem RL.mem {L : List En} {S : FS} (h : RL L S) {e : En} (he : e ∈ L) : ∃ q, q ∈ ord S.t ∧ e.x = S.f (q - 1) ∧ e.d = ks S.t q := by
  have h1 : e.ab ∈ refL S := by rw [← h]; exact List.mem_map_of_mem he
  obtain ⟨q, hq, e1⟩ := (mem_refL S _).1 h1
  exact ⟨q, hq, (congrArg Prod.fst e1).symm, (congrArg Prod.snd e1).symm⟩
theorem RL.dl {L : List En} {S : FS} (h : RL L S) : ∀ e ∈ L, e.d.length ≤ 48 := fun e he => by
  obtain ⟨q, _, _, e2⟩ := h.mem he
  rw [e2]
  exact ks_len _ _
theorem RL.ll {L : List En} {S : FS} (h : RL L S) : L.length ≤ 48 := by rw [h.len]; exact ord_len48 _
theorem atR_no {S : FS} {pid fd : Int} (h : nm S pid fd = 0) : atR S pid fd = -1 := by unfold atR; rw [if_pos h]
theorem atR_yes {S : FS} {pid fd : Int} (h : nm S pid fd ≠ 0) : ∃ i : Nat, atR S pid fd = (i : Int) ∧ (ord S.t)[i]? = some (nm S pid fd) ∧ i < 48 := by
  have hm := mem_nm h
  have hlt := List.idxOf_lt_length_of_mem hm
  have hl := ord_len48 S.t
  refine ⟨(ord S.t).idxOf (nm S pid fd), by unfold atR; rw [if_neg h], ?_, by omega⟩
  rw [List.getElem?_eq_getElem hlt]
  simp
theorem ra_at (B c : Nat) (v : Value) (L : List En) (S : FS) (pid fd : Int) (w : World) (h : RIs w B c v L) (hL : RL L S) :
    Calls Tryz.prog 160 #[.pointer (some ⟨c, 0, none⟩), .int .i64 pid, .int .i64 fd] w fun e w' => e = .returned (.int .i64 (atR S pid fd)) ∧ w' = w := by
  have h1 := rat_at B c v L pid fd w h (by have := hL.ll; omega) (fun e he => by have := hL.dl e he; omega)
  rwa [hL.at] at h1
theorem rfree_at (B c : Nat) (v : Value) (L : List En) (S : FS) (m : Nat) (w : World) (h : RIs w B c v L) (hL : RL L S) (hm : m < 8) :
    Calls Tryz.prog 97 #[.pointer (some ⟨c, 0, none⟩), .int .i64 ((m : Int) + 1)] w fun e w' => e = .returned (.int .i64 (fdOf S m)) ∧ w' = w := by
  have hA := fun fd => ra_at B c v L S ((m : Int) + 1) fd w h hL
  clear h hL
  have HNm : Hid (∀ k : Nat, k < 6 → nm S ((m : Int) + 1) k = S.t (m * 6 + k)) := fun k hk => nm_of hm hk
  generalize hpp : (m : Int) + 1 = pp at *
  go_enter Tryz.func97, Tryz.ntmps97
  go_wp2
  go_loopw [5] (fun s wr => ∃ (k : Nat), k ≤ 6 ∧ s = .int .i64 k ∧ Hid (∀ i, i < k → S.t (m * 6 + i) ≠ 0) ∧ wr = w) (fun s _ => 6 - (intOf s).toNat)
  case atStart => exact ⟨0, by omega, rfl, (show Hid _ from fun i hi => absurd hi (Nat.not_lt_zero _)), rfl⟩
  case round =>
    obtain ⟨k, hk, rfl, HN, hw⟩ := hrel
    subst hw
    by_cases hlt : k < 6
    · have hki : (k : Int) < 6 := by omega
      have hAk := hA k
      by_cases h0 : S.t (m * 6 + k) = 0
      · have HF : Hid (fdOf S m = (k : Int)) := low_yes hlt (by simpa using h0) (fun j hj => by simpa using HN.out j hj)
        rw [atR_no (by rw [HNm.out k hlt]; exact h0)] at hAk
        clear h0 hA
        go_wp2_with (go_at_call 160; refine hAk.mono ?_; rintro e w1 ⟨rfl, hw⟩; rw [hw]; clear hw w1)
        go_ret
        exact ⟨by rw [HF.out]; rfl, rfl⟩
      · obtain ⟨i, hi, -, hi2⟩ := atR_yes (S := S) (pid := pp) (fd := k) (by rw [HNm.out k hlt]; exact h0)
        rw [hi] at hAk
        have HN2 : Hid (∀ i, i < k + 1 → S.t (m * 6 + i) ≠ 0) := fun j hj => by
          rcases Nat.lt_or_ge j k with q1 | q1
          · exact HN.out j q1
          · have : j = k := by omega
            rw [this]
            exact h0
        have hin : decide ((i : Int) < 0) = false := decide_eq_false (by omega)
        clear h0 hi HN
        go_wp2_with (go_at_call 160; refine hAk.mono ?_; rintro e w1 ⟨rfl, hw⟩; rw [hw]; clear hw w1)
        go_roundw
        case rel => exact ⟨k + 1, by omega, by go_num, HN2, by first | rfl | trivial⟩
        case measure => simp [intOf]; omega
    · have HF : Hid (fdOf S m = -1) := low_no (fun j hj => by simpa using HN.out j (by omega))
      obtain rfl : k = 6 := by omega
      clear HN
      go_wp2
      go_ret
      exact ⟨by rw [HF.out]; rfl, rfl⟩
end Fd
end Go.Proofs.YtnlhedpfhgoncabGreatDoor
namespace Go.Proofs.YtnlhedpfhgoncabGreatDoor
open Go.RowKit
namespace Ow
end Ow
namespace Fd
open Ow
/-- A place is taken just where its number is among the names. -/
theorem taken_iff {S : FS} (hI : Inv S) {p : Nat} (hp : p < 32) : 0 < (S.f p).refs ↔ p + 1 ∈ ord S.t := by
  rw [mem_ord, hI.refs p hp]
  constructor
  · intro h
    obtain ⟨k, hk⟩ := List.exists_mem_of_length_pos (l := ks S.t (p + 1)) (by omega)
    rw [mem_ks] at hk
    exact ⟨by omega, k, hk.1, hk.2⟩
  · rintro ⟨_, k, hk, e⟩
    have := List.length_pos_of_mem ((mem_ks S.t (p + 1) k).2 ⟨hk, e⟩)
    omega
theorem nodup_le : ∀ (l m : List Nat), l.Nodup → (∀ x ∈ l, x ∈ m) → l.length ≤ m.length
  | [], m, _, _ => Nat.zero_le _
  | a :: l, m, hn, hs => by
    rw [List.nodup_cons] at hn
    have ha := hs a List.mem_cons_self
    have ih := nodup_le l (m.erase a) hn.2 (fun x hx => (List.mem_erase_of_ne (show x ≠ a from fun e => hn.1 (by rw [← e]; exact hx))).2 (hs x (List.mem_cons_of_mem _ hx)))
    rw [List.length_erase_of_mem ha] at ih
    have := List.length_pos_of_mem ha
    simp
    omega
/-- All places are taken just where 32 files are open. -/
theorem full_iff {S : FS} (hI : Inv S) : 32 ≤ (ord S.t).length ↔ plOf S = -1 := by
  have hone : ∀ q ∈ ord S.t, q ≠ 0 ∧ q ≤ 32 := fun q hq => by
    obtain ⟨h0, k, hk, e⟩ := (mem_ord _ _).1 hq
    have := hI.name k hk
    exact ⟨h0, by omega⟩
  rcases low_spec (fun p => (S.f p).refs == 0) 32 with ⟨p, hp, h1, _, h3⟩ | ⟨h1, h3⟩
  · have hpl : plOf S = (p : Int) := h3
    rw [hpl]
    constructor
    · intro h
      have hno : p + 1 ∉ ord S.t := fun hm => by
        have h4 := (taken_iff hI hp).2 hm
        have h5 : (S.f p).refs = 0 := by simpa using h1
        omega
      have := nodup_le (ord S.t) ((List.range' 1 32).erase (p + 1)) (ord_nodup _) (fun x hx => by
        have := hone x hx
        refine (List.mem_erase_of_ne (show x ≠ p + 1 from fun e => hno (by rw [← e]; exact hx))).2 ?_
        rw [List.mem_range'_1]
        omega)
      rw [List.length_erase_of_mem (by rw [List.mem_range'_1]; omega)] at this
      simp at this
      omega
    · intro h
      omega
  · have hpl : plOf S = -1 := h3
    rw [hpl]
    refine ⟨fun _ => rfl, fun _ => ?_⟩
    have := nodup_le (List.range' 1 32) (ord S.t) List.nodup_range' (fun x hx => by
      rw [List.mem_range'_1] at hx
      have h4 := h1 (x - 1) (by omega)
      have h5 := (hI.bound (p := x - 1) (by omega)).1
      have h6 := (taken_iff hI (p := x - 1) (by omega)).1 (by
        have : (S.f (x - 1)).refs ≠ 0 := by simpa using h4
        omega)
      rwa [show x - 1 + 1 = x by omega] at h6)
    simpa using this
end Fd
end Go.Proofs.YtnlhedpfhgoncabGreatDoor
namespace Go.Proofs.YtnlhedpfhgoncabGreatDoor
open Go.RowKit
namespace Ow
end Ow
namespace Fd
open Ow
theorem grown_ru {B : Nat} {w w' : World} {u : Value} {n : Nat} {xs : List Value} (ho : w.ownsRow B 201 6 u n xs) (hg : w.grownBy w' u.ownBlock) (hB : B ≤ w.heap.size) : RU B w w' := by
  refine ⟨hg.os, hg.tape, hg.output, hg.size, fun k hk => hg.block k (by omega) (fun e => by have := ownsRow_low ho k e.symm; omega), fun k cs t fr hk h1 h2 => (hg.block k (lt_of_heap hk) (fun e => ?_)).trans hk, fun k es cl hk => (hg.block k (lt_of_heap hk) (fun e => ?_)).trans hk⟩
  · obtain ⟨c2, k2⟩ := own_type ho e.symm
    rw [hk] at k2
    simp only [Option.some.injEq, Obj.cells.injEq] at k2
    exact h2 k2.2.1
  · obtain ⟨c2, k2⟩ := own_type ho e.symm
    rw [hk] at k2
    cases k2
/-- The file that is opened. -/
abbrev newE (x : Fl) (gP k : Nat) : En := ⟨x, some ⟨gP, 0, none⟩, 1, [k]⟩
/-- append(out, F{..}) and the store. -/
theorem open_fin {W : World} {B c ll c1 gP gF k : Nat} {v : Value} {a1 : Option Addr} {L : List En} (x : Fl) (hR : RIs W B c v L) (ho : W.ownsRow B 201 6 (.slice a1 ll c1) L.length (ecs L)) (hll : L.length = ll) (hlen : ll ≤ 400)
    (hP : W.heap[gP]? = some (.cells #[.int .i64 ((k / 6 + 1 : Nat) : Int), .int .i64 ((k % 6 : Nat) : Int)] 22)) (hF : W.heap[gF]? = some (.cells (ec (newE x gP k)).toArray 201)) (hB : B ≤ W.heap.size) :
    ∃ a2 c2 w2, (∀ ty, (Builtin.append_ #[87, 87] ty #[.slice a1 ll c1, .slice (some ⟨gF, 0, none⟩) 1 1]).run Tryz.prog W = .ok (.slice a2 (ll + 1) c2) w2) ∧ w2.cell? ⟨c, 0, none⟩ = some v ∧ w2.frozen? ⟨c, 0, none⟩ = false ∧ RIs (w2.setCell ⟨c, 0, none⟩ (.slice a2 (ll + 1) c2)) B c (.slice a2 (ll + 1) c2) (L ++ [newE x gP k]) ∧ RU B W (w2.setCell ⟨c, 0, none⟩ (.slice a2 (ll + 1) c2)) := by
  have hfr : FRd W (some ⟨gF, 0, none⟩) [newE x gP k] := by
    intro i u hu
    refine ⟨gF, 0, rfl, ?_⟩
    rw [Nat.zero_add, cell_of_heap hF, ← hu]
    simp [ecs]
  obtain ⟨a, c', w', hrun, hown, hgrow⟩ := appF ho hB (a2 := some ⟨gF, 0, none⟩) (n2 := 1) (c2 := 1) (N := [newE x gP k]) rfl hfr (by rw [hll]; simp; omega)
  have hl2 : (L ++ [newE x gP k]).length = ll + 1 := by rw [List.length_append, hll]; rfl
  have hru := grown_ru ho hgrow hB
  have hcne : ∀ g, (Value.slice a1 ll c1).ownBlock = some g → g ≠ c := by
    rintro g hg rfl
    obtain ⟨cs, hcs⟩ := own_type ho hg
    rw [hR.head] at hcs
    simp only [Option.some.injEq, Obj.cells.injEq] at hcs
    exact absurd hcs.2.1 (by decide)
  have hhead : w'.heap[c]? = some (.cells #[v] 89) := (hgrow.block c hR.lt (fun e => hcne c e.symm rfl)).trans hR.head
  have hkeepP : ∀ (g : Nat) (cs : Array Value) (fr : Nat × Nat), W.heap[g]? = some (.cells cs 22 fr) → (w'.setCell ⟨c, 0, none⟩ (.slice a (ll + 1) c')).heap[g]? = some (.cells cs 22 fr) := fun g cs fr hg => by
    have h1 := hru.other g cs _ fr hg (by decide) (by decide)
    rw [Below.heap_setCell _ _ _ _ ?_]
    · exact h1
    · show g ≠ c
      rintro rfl
      rw [hR.head] at hg
      simp only [Option.some.injEq, Obj.cells.injEq] at hg
      exact absurd hg.2.1 (by decide)
  rw [hl2] at hrun hown
  refine ⟨a, c', w', hrun, by rw [cell_of_heap hhead]; rfl, frozen_of_heap hhead, ⟨?_, ?_, ?_, hR.cB⟩, hru.trans (RU.cell hhead (Or.inl rfl) hR.cB _)⟩
  · rw [setCell_eq_setRow w' c 0 _ _ _ _ hhead, setRow_heap w' c _ _ _ _ hhead]
    rfl
  · rw [hl2]
    refine ownsRow_at hown (fun g hg => Below.heap_setCell _ _ _ _ ?_)
    show g ≠ c
    rintro rfl
    obtain ⟨cs, hcs⟩ := own_type hown hg
    rw [hhead] at hcs
    simp only [Option.some.injEq, Obj.cells.injEq] at hcs
    exact absurd hcs.2.1 (by decide)
  · intro e he
    rcases List.mem_append.1 he with he | he
    · exact ⟨(hR.rd e he).1.keep hkeepP, (hR.rd e he).2⟩
    · rw [List.mem_singleton] at he
      subst he
      refine ⟨PRd.keep ?_ hkeepP, Nat.le_refl _⟩
      intro j q hj
      have hj0 : j = 0 := by have := (List.getElem?_eq_some_iff.1 hj).1; simp at this; omega
      subst hj0
      have hq : k = q := by simpa using hj
      subst hq
      exact ⟨gP, rfl, ⟨_, _, hP⟩, by rw [cell_of_heap hP]; rfl, by rw [cell_of_heap hP]; rfl⟩
/-- append([]F(nil), l...). -/
theorem app_nil {W : World} {B ll cv : Nat} {av : Option Addr} {L : List En} (hB : B ≤ W.heap.size) (hr : FRd W av L) (hll : L.length = ll) (hlen : ll ≤ 400) :
    ∃ a1 c1 w1, (∀ ty, (Builtin.append_ #[87, 87] ty #[.slice none 0 0, .slice av ll cv]).run Tryz.prog W = .ok (.slice a1 ll c1) w1) ∧ w1.ownsRow B 201 6 (.slice a1 ll c1) L.length (ecs L) ∧ Below W.heap.size W w1 := by
  obtain ⟨a, c', w', hrun, hown, hgrow⟩ := appF (M := []) (u := .slice none 0 0) (World.ownsRow_nil W B 201 6) hB (a2 := av) (n2 := ll) (c2 := cv) (N := L) hll.symm hr (by rw [List.length_nil]; omega)
  rw [List.nil_append] at hrun hown
  rw [hll] at hrun
  refine ⟨a, c', w', hrun, ?_, ⟨hgrow.os, hgrow.tape, hgrow.output, hgrow.size, fun k hk => hgrow.block k hk (by simp [Value.ownBlock])⟩⟩
  rw [hll] at hown ⊢
  exact hown
end Fd
end Go.Proofs.YtnlhedpfhgoncabGreatDoor
