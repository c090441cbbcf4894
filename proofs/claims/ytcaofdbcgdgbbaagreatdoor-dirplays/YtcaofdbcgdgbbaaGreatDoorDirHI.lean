/- Plain: names that are taken away; paths made of names; a directory filled. Names no program. -/
/- januslaw16: texts, awake; directories stay directories. -/
import Derived.Test.YtcaofdbcgdgbbaaGreatDoorDirFG
import Derived.Test.YtcaofdbcgdgbbaaGreatDoorDtH
namespace Go.Proofs.YtcaofdbcgdgbbaaGreatDoor
open Go.RowKit
set_option linter.unusedVariables false

theorem place_names (l : List Ent) (s : List UInt8) : placeE l s = (l.map Ent.name).findIdx (fun x => x == s) := by
  unfold placeE
  rw [List.findIdx_map]
  rfl
/-- The names that stay. -/
theorem gone_names : ∀ {l : List Ent} {s : List UInt8}, (l.map Ent.name).Nodup → placeE l s < l.length → (l.take (placeE l s) ++ l.drop (placeE l s + 1)).map Ent.name = (l.map Ent.name).filter (fun x => x != s)
  | [], s, _, h => by simp [placeE] at h
  | e :: l, s, hn, h => by
    simp only [List.map_cons, List.nodup_cons] at hn
    by_cases q : e.name = s
    · have hp : placeE (e :: l) s = 0 := by unfold placeE; simp [List.findIdx_cons, q]
      rw [hp]
      simp only [List.take_zero, List.nil_append, Nat.zero_add, List.drop_succ_cons, List.drop_zero, List.map_cons]
      rw [List.filter_cons_of_neg (by simp [q]), List.filter_eq_self.2]
      intro x hx
      have : x ≠ s := fun z => hn.1 (by rw [q, ← z]; exact hx)
      simpa using this
    · have hp : placeE (e :: l) s = placeE l s + 1 := by
        have hb : (e.name == s) = false := by simpa using q
        unfold placeE
        rw [List.findIdx_cons, hb]
        rfl
      rw [hp] at h ⊢
      have ih := gone_names (l := l) (s := s) hn.2 (by simpa using h)
      simp only [List.take_succ_cons, List.cons_append, List.drop_succ_cons, List.map_cons]
      rw [ih, List.filter_cons_of_pos (by simpa using q)]
theorem none_names {l : List Ent} {s : List UInt8} (h : ¬ placeE l s < l.length) : (l.map Ent.name).filter (fun x => x != s) = l.map Ent.name := by
  rw [List.filter_eq_self.2]
  intro x hx
  obtain ⟨e, he, rfl⟩ := List.mem_map.1 hx
  simpa using place_none h e he
theorem find_no {l : List Ent} {s : List UInt8} (h : s ∉ l.map Ent.name) : findE l s = -1 := by
  unfold findE
  rw [if_neg]
  intro q
  exact h (List.mem_map.2 ⟨_, List.getElem_mem q, (place_hit q).1⟩)
theorem find_gone {l : List Ent} {s : List UInt8} (hn : (l.map Ent.name).Nodup) (h : placeE l s < l.length) : findE (l.take (placeE l s) ++ l.drop (placeE l s + 1)) s = -1 := by
  refine find_no ?_
  rw [gone_names hn h]
  simp
theorem gone_len {l : List Ent} {k : Nat} (h : k < l.length) : (l.take k ++ l.drop (k + 1)).length + 1 = l.length := by
  simp
  omega
/-- A part ends at a slash or at the end. -/
theorem parts_run : ∀ (p cur rest : List UInt8), (∀ b ∈ p, b ≠ 47) → partsP cur (p ++ rest) = partsP (cur ++ p) rest
  | [], cur, rest, _ => by simp
  | b :: p, cur, rest, h => by
    have hb := h b List.mem_cons_self
    show (if b == 47 then _ else partsP (cur ++ [b]) (p ++ rest)) = _
    rw [if_neg (by simpa using hb), parts_run p (cur ++ [b]) rest (fun x hx => h x (List.mem_cons_of_mem _ hx)), List.append_assoc]
    rfl
theorem parts_slash (rest : List UInt8) : partsP [] (47 :: rest) = partsP [] rest := rfl
/-- A path of names: each behind one slash or two. -/
def pathP : List (List UInt8 × Bool) → List UInt8
  | [] => []
  | (p, two) :: l => 47 :: ((if two then [47] else []) ++ p ++ pathP l)
theorem path_stop : ∀ (l : List (List UInt8 × Bool)) (cur : List UInt8), cur ≠ [] → partsP cur (pathP l) = cur :: partsP [] (pathP l)
  | [], cur, h => by
    show (if cur.isEmpty then [] else [cur]) = cur :: partsP [] []
    rw [if_neg (by simpa using h)]
    rfl
  | (p, two) :: l, cur, h => by
    show (if (47 : UInt8) == 47 then (if cur.isEmpty then _ else cur :: partsP [] _) else _) = _
    rw [if_pos (by decide), if_neg (by simpa using h)]
    rfl
theorem path_parts : ∀ {l : List (List UInt8 × Bool)}, (∀ x ∈ l, isName x.1 = true) → partsP [] (pathP l) = l.map Prod.fst
  | [], _ => rfl
  | (p, two) :: l, h => by
    have hp := ent_ok (k := 0) (h (p, two) List.mem_cons_self) (by omega)
    have ih := path_parts (l := l) (fun x hx => h x (List.mem_cons_of_mem _ hx))
    have hne : p ≠ [] := fun e => by have := hp.pos; rw [e] at this; simp at this
    have e1 : partsP [] (pathP ((p, two) :: l)) = partsP [] (p ++ pathP l) := by
      cases two with
      | false => rfl
      | true => rfl
    rw [e1, parts_run p [] (pathP l) hp.ns, List.nil_append, path_stop l p hne, ih]
    rfl
theorem first_names : ∀ {l : List (List UInt8)}, (∀ x ∈ l, isName x = true) → firstE l = 0
  | [], _ => rfl
  | p :: l, h => by
    have hp := h p List.mem_cons_self
    have h0 : partE p = 0 := by
      unfold isName at hp
      simp only [Bool.and_eq_true, decide_eq_true_eq] at hp
      exact hp.2
    show (if partE p = 0 then firstE l else partE p) = 0
    rw [if_pos h0]
    exact first_names (fun x hx => h x (List.mem_cons_of_mem _ hx))
theorem path_split {l : List (List UInt8 × Bool)} (h : ∀ x ∈ l, isName x.1 = true) (h0 : l ≠ []) (h32 : (pathP l).length ≤ 32) : splitR (pathP l) = 0 ∧ splitP (pathP l) = l.map Prod.fst := by
  have hne : pathP l ≠ [] := by
    cases l with
    | nil => exact absurd rfl h0
    | cons x l =>
      obtain ⟨p, two⟩ := x
      intro e
      cases e
  have hf : firstE (partsP [] (pathP l)) = 0 := by
    rw [path_parts h]
    refine first_names (fun x hx => ?_)
    obtain ⟨y, hy, rfl⟩ := List.mem_map.1 hx
    exact h y hy
  unfold splitR splitP
  rw [if_neg hne, if_neg hne, if_neg (by omega), if_neg (by omega), if_pos hf, path_parts h]
  exact ⟨by rw [← path_parts h]; exact hf, rfl⟩
/-- The same walk, one part more. -/
theorem walk_snoc (F : FS) : ∀ (l : List (List UInt8)) (i k : Int) (p : List UInt8), wkR F i l = (k, 0) → isD F k = true → 0 ≤ fdR F k p → wkR F i (l ++ [p]) = (fdR F k p, 0)
  | [], i, k, p, h, hd, hf => by
    have e : i = k := by
      have : (i, (0 : Int)) = (k, 0) := h
      simpa using this
    subst e
    show (if isD F i = false then _ else if fdR F i p < 0 then _ else wkR F (fdR F i p) []) = _
    rw [hd, if_neg (by simp), if_neg (by omega)]
    rfl
  | q :: l, i, k, p, h, hd, hf => by
    have h' : (if isD F i = false then ((0 : Int), (20 : Int)) else if fdR F i q < 0 then (0, 2) else wkR F (fdR F i q) l) = (k, 0) := h
    show (if isD F i = false then ((0 : Int), (20 : Int)) else if fdR F i q < 0 then (0, 2) else wkR F (fdR F i q) (l ++ [p])) = _
    cases hi : isD F i with
    | false => rw [hi, if_pos rfl] at h'; simp at h'
    | true =>
      rw [hi, if_neg (by simp)] at h'
      rw [if_neg (by simp)]
      by_cases hn : fdR F i q < 0
      · rw [if_pos hn] at h'; simp at h'
      · rw [if_neg hn] at h' ⊢
        exact walk_snoc F l _ k p h' hd hf
end Go.Proofs.YtcaofdbcgdgbbaaGreatDoor

namespace Go.Proofs.YtcaofdbcgdgbbaaGreatDoor
open Go.RowKit Go.Lib
set_option linter.unusedVariables false

set_option maxHeartbeats 1000000 in
theorem texts_same (u v : Value) (ts : List (List UInt8)) (b1 b2 : Nat) (w : World) (h1 : Ts w b1 u ts) (h2 : Ts w b2 v ts) (hl : ts.length ≤ 1000) :
    Calls Tryz.prog 10 #[u, v] w fun e w' => e = .returned (.bool true) ∧ ∃ q, w' = w.drewN q := by
  obtain ⟨a, cap, rfl, -⟩ := h1.form
  obtain ⟨a', cap', rfl, -⟩ := h2.form
  have HA : Hid (Ts w b1 (.slice a ts.length cap) ts) := h1
  have HB : Hid (Ts w b2 (.slice a' ts.length cap') ts) := h2
  clear h1 h2
  go_enter Tryz.func10, Tryz.ntmps10
  go_wp2
  go_loopw [5] (fun i wr => ∃ (k q : Nat), k ≤ ts.length ∧ i = .int .i64 k ∧ wr = w.drewN q) (fun i _ => ts.length - (RowKit.intOf i).toNat)
  case atStart => exact ⟨0, 0, by omega, rfl, rfl⟩
  case round =>
    obtain ⟨k, q, hk, rfl, rfl⟩ := hrel
    by_cases hlt : k < ts.length
    · obtain ⟨t, ht⟩ : ∃ t, ts[k]? = some t := ⟨ts[k], List.getElem?_eq_getElem hlt⟩
      obtain ⟨g, rfl, c1, -⟩ := HA.out.at ht
      obtain ⟨g', rfl, c2, -⟩ := HB.out.at ht
      have hint : (k : Int) < (ts.length : Int) := by omega
      have hs := text_same t
      clear ht
      go_wp2
      go_quiet (fail)
      go_wp2
      go_roundw
      case rel => exact ⟨k + 1, _, by omega, by go_num, rfl⟩
      case measure => simp [RowKit.intOf]; omega
    · have hnl : ¬ (k : Int) < (ts.length : Int) := by omega
      go_wp2
      go_ret
      exact ⟨rfl, q, rfl⟩
theorem AllD.add {F : FS} (hF : FInv F) (hA : AllD F) (i : Int) (s : List UInt8) (to : Int) : AllD (adF F i s to) := by
  by_cases h : adR F i s to = 0
  · obtain ⟨k, t, l, rfl, hk, rfl, ht, hl, e, hd, _⟩ := add_ok hF hA h
    rw [e] at hd ⊢
    exact hA.lay hd
  · unfold adF
    rw [if_neg h]
    exact hA
theorem AllD.rem {F : FS} (hF : FInv F) (hA : AllD F) (i : Int) (s : List UInt8) : AllD (rmF F i s) := by
  by_cases h : rmR F i s = 0
  · obtain ⟨k, l, rfl, hk, hl, hp, et, e, hd⟩ := rem_ok hF hA h
    rw [e] at hd ⊢
    exact hA.lay hd
  · unfold rmF
    rw [if_neg h]
    exact hA
theorem AllD.al {F : FS} (hA : AllD F) (kind : Int) : AllD (alF F kind) := by
  unfold alF
  split
  · exact hA.alloc _ _
  · exact hA
theorem allD0 (n : Nat) : AllD (F0 n) := fun i hi hk => by
  have e : (F0 n).ino i = if i = 0 then ⟨2, 1, [], []⟩ else Ino.no := rfl
  by_cases q : i = 0
  · rw [if_pos q] at e
    exact ⟨[], ⟨by rw [e], by rw [e]; rfl, (fun x hx => by cases hx), List.nodup_nil, by simp⟩⟩
  · rw [e, if_neg q] at hk
    cases hk
/-- The chapter's examples. -/
def X1 : FS := alF (F0 20) 1
def X2 : FS := adF X1 0 [97] 1
theorem x_ad : adR X1 0 [97] 1 = 0 := by decide +kernel
theorem x_w1 : walkR X2 [47, 97] = (1, 0) := by decide +kernel
theorem x_w2 : walkR X2 [47, 97, 47, 98] = (0, 20) := by decide +kernel
theorem x_p1 : paR X2 [47, 120, 47, 121] = (0, [], 2) := by decide +kernel
theorem x_p2 : paR X2 [97, 47] = (0, [97], 0) := by decide +kernel
theorem x_a2 : adR X2 0 [97] 1 = 17 := by decide +kernel
theorem x_f2 : adF X2 0 [97] 1 = X2 := by unfold adF; rw [x_a2]; rfl
theorem x_fd : fdR X2 0 [98] = -1 := by decide +kernel
theorem x_sp : splitR [47, 47, 97, 47, 98, 47] = 0 ∧ splitP [47, 47, 97, 47, 98, 47] = [[97], [98]] := by decide +kernel
/-- A disk of a law's own. -/
structure OnAt (w wr : World) (B G : Nat) (F : FS) (m : Nat) : Prop where
  fs : Fs wr B G F m
  dir : AllD F
  lo : w.heap.size ≤ B ∧ w.heap.size ≤ G
  old : Below w.heap.size w wr
section
variable {w wr w' : World} {B G m : Nat} {F : FS}
theorem OnAt.call {F' : FS} {m' : Nat} (h : OnAt w wr B G F m) (hf : Fs w' B G F' m') (hd : AllD F') (hu : BG B G wr w') : OnAt w w' B G F' m' :=
  ⟨hf, hd, h.lo, h.old.trans (bg_below hu h.lo.1 h.lo.2 h.old.size)⟩
theorem OnAt.below (h : OnAt w wr B G F m) (hb : Below wr.heap.size wr w') : OnAt w w' B G F m := ⟨h.fs.below hb, h.dir, h.lo, h.old.trans (hb.mono h.old.size)⟩
theorem OnAt.mono {m' : Nat} (h : OnAt w wr B G F m) (hm : m ≤ m') : OnAt w wr B G F m' := ⟨h.fs.mono hm, h.dir, h.lo, h.old⟩
theorem on_pair (n : Nat) (w : World) (h1 : 13 ≤ n) (h2 : n ≤ 64) :
    Calls Tryz.prog 12 #[.int .i64 (n : Int)] w fun e w' => ∃ B bx, e = .returned (.tuple #[ptr B, ptr bx, .int .i64 1]) ∧ ∃ G, OnAt w w' B G (F0 n) 2000 := by
  refine (pair_at n w h1 h2).mono ?_
  rintro e w' ⟨B, bx, q1, ⟨G, gx, q2⟩, q3⟩
  exact ⟨B, bx, q1, G, q2.fs, allD0 n, ⟨q2.lo.1, q2.lo.2.1⟩, q3⟩
theorem on_find (h : OnAt w wr B G F m) (hm : m ≤ 700000000000) (i : Int) (s : List UInt8) :
    Calls Tryz.prog 24 #[sto B, .int .i64 i, tx s] wr fun e w' => e = .returned (.int .i64 (fdR F i s)) ∧ OnAt w w' B G F (m + 4000) ∧ BG B G wr w' := by
  refine (Find_at h.fs h.dir (by omega) i s).mono ?_
  rintro e w' ⟨q1, q2, q3⟩
  exact ⟨q1, h.call q2 h.dir q3, q3⟩
theorem on_add (h : OnAt w wr B G F m) (hm : m ≤ 700000000000) (i : Int) (s : List UInt8) (hs : s.length ≤ 9223372036854775807) (to : Int) :
    Calls Tryz.prog 16 #[sto B, .int .i64 i, tx s, .int .i64 to] wr fun e w' => e = .returned (.int .i64 (adR F i s to)) ∧ OnAt w w' B G (adF F i s to) (m + 6000) ∧ BG B G wr w' := by
  refine (Add_at h.fs h.dir (by omega) i s hs to).mono ?_
  rintro e w' ⟨q1, q2, q3⟩
  exact ⟨q1, h.call q2 (h.dir.add h.fs.inv i s to) q3, q3⟩
theorem on_rem (h : OnAt w wr B G F m) (hm : m ≤ 700000000000) (i : Int) (s : List UInt8) :
    Calls Tryz.prog 18 #[sto B, .int .i64 i, tx s] wr fun e w' => e = .returned (.int .i64 (rmR F i s)) ∧ OnAt w w' B G (rmF F i s) (m + 8000) ∧ BG B G wr w' := by
  refine (Remove_at h.fs h.dir (by omega) i s).mono ?_
  rintro e w' ⟨q1, q2, q3⟩
  exact ⟨q1, h.call q2 (h.dir.rem h.fs.inv i s) q3, q3⟩
theorem on_alloc (h : OnAt w wr B G F m) (hm : m ≤ 700000000000) (kind : Int) (hk : Fit kind) :
    Calls Tryz.prog 14 #[sto B, .int .i64 kind] wr fun e w' => e = .returned (.tuple #[.int .i64 (alI F), .int .i64 (alR F)]) ∧ OnAt w w' B G (alF F kind) (m + 2000) ∧ BG B G wr w' := by
  refine (alloc_all h.fs (by omega) kind hk).mono ?_
  rintro e w' ⟨q1, q2, q3⟩
  exact ⟨q1, h.call q2 (h.dir.al kind) q3, q3⟩
theorem on_walk (h : OnAt w wr B G F m) (hm : m ≤ 700000000000) (p : List UInt8) (hp : p.length ≤ 9223372036854775807) :
    Calls Tryz.prog 20 #[sto B, tx p] wr fun e w' => e = .returned (.tuple #[.int .i64 (walkR F p).1, .int .i64 (walkR F p).2]) ∧ OnAt w w' B G F (m + 140000) ∧ BG B G wr w' := by
  refine (Walk_at h.fs h.dir hm p hp).mono ?_
  rintro e w' ⟨q1, q2, q3⟩
  exact ⟨q1, h.call q2 h.dir q3, q3⟩
theorem on_parent (h : OnAt w wr B G F m) (hm : m ≤ 700000000000) (p : List UInt8) (hp : p.length ≤ 9223372036854775807) :
    Calls Tryz.prog 22 #[sto B, tx p] wr fun e w' => e = .returned (.tuple #[.int .i64 (paR F p).1, tx (paR F p).2.1, .int .i64 (paR F p).2.2]) ∧ OnAt w w' B G F (m + 150000) ∧ BG B G wr w' := by
  refine (Parent_at h.fs h.dir hm p hp).mono ?_
  rintro e w' ⟨q1, q2, q3⟩
  exact ⟨q1, h.call q2 h.dir q3, q3⟩
end
set_option maxHeartbeats 4000000 in
set_option maxRecDepth 100000 in
theorem awake_at (w : World) :
    Calls Tryz.prog 11 #[] w fun e w' => e = .returned (.bool true) ∧ Below w.heap.size w w' := by
  have hP := on_pair 20 w (by omega) (by omega)
  go_enter Tryz.func11, Tryz.ntmps11
  go_wp2_with fail
  refine hP.mono ?_
  rintro e w1 ⟨B, bx, rfl, G, hO⟩
  have H1 : Hid (OnAt w w1 B G (F0 20) 2000) := hO
  clear hP hO
  have hC := split_at [47, 47, 97, 47, 98, 47] (by simp) w1
  rw [x_sp.1, x_sp.2] at hC
  go_wp2_with fail
  refine hC.mono ?_
  rintro e w2 ⟨v, rfl, hT, hb⟩
  obtain ⟨a, cap, rfl, -⟩ := hT.form
  have H2 : Hid (OnAt w w2 B G (F0 20) 2000) := H1.out.below hb
  have HT2 : Hid (Ts w2 w1.heap.size (.slice a 2 cap) [[97], [98]] ∧ B < w1.heap.size ∧ G < w1.heap.size) := ⟨hT, H1.out.fs.lt⟩
  clear hC hT hb H1
  have hC := on_alloc H2.out (by omega) 1 ⟨by omega, by omega⟩
  rw [alI0, alR0] at hC
  go_wp2_with fail
  refine hC.mono ?_
  rintro e w3 ⟨rfl, hO, hu⟩
  have H3 : Hid (OnAt w w3 B G X1 4000) := hO
  have HT3 : Hid (Ts w3 w1.heap.size (.slice a 2 cap) [[97], [98]]) := HT2.out.1.keep hu (fun j hj => by have := HT2.out.2; rcases hj with e | e <;> omega)
  clear hC hO hu H2
  have hC := on_add H3.out (by omega) 0 [97] (by simp) 1
  rw [x_ad] at hC
  go_wp2_with fail
  refine hC.mono ?_
  rintro e w4 ⟨rfl, hO, hu⟩
  have H4 : Hid (OnAt w w4 B G X2 10000) := hO
  have HT4 : Hid (Ts w4 w1.heap.size (.slice a 2 cap) [[97], [98]]) := HT3.out.keep hu (fun j hj => by have := HT2.out.2; rcases hj with e | e <;> omega)
  clear hC hO hu H3 HT3
  have hC := on_walk H4.out (by omega) [47, 97] (by simp)
  rw [x_w1] at hC
  go_wp2_with fail
  refine hC.mono ?_
  rintro e w5 ⟨rfl, hO, hu⟩
  have H5 : Hid (OnAt w w5 B G X2 150000) := hO
  have HT5 : Hid (Ts w5 w1.heap.size (.slice a 2 cap) [[97], [98]]) := HT4.out.keep hu (fun j hj => by have := HT2.out.2; rcases hj with e | e <;> omega)
  clear hC hO hu H4 HT4
  have hC := on_walk H5.out (by omega) [47, 97, 47, 98] (by simp)
  rw [x_w2] at hC
  go_wp2_with fail
  refine hC.mono ?_
  rintro e w6 ⟨rfl, hO, hu⟩
  have H6 : Hid (OnAt w w6 B G X2 290000) := hO
  have HT6 : Hid (Ts w6 w1.heap.size (.slice a 2 cap) [[97], [98]]) := HT5.out.keep hu (fun j hj => by have := HT2.out.2; rcases hj with e | e <;> omega)
  clear hC hO hu H5 HT5
  have hC := on_parent H6.out (by omega) [47, 120, 47, 121] (by simp)
  rw [x_p1] at hC
  go_wp2_with fail
  refine hC.mono ?_
  rintro e w7 ⟨rfl, hO, hu⟩
  have H7 : Hid (OnAt w w7 B G X2 440000) := hO
  have HT7 : Hid (Ts w7 w1.heap.size (.slice a 2 cap) [[97], [98]]) := HT6.out.keep hu (fun j hj => by have := HT2.out.2; rcases hj with e | e <;> omega)
  clear hC hO hu H6 HT6
  have hC := on_parent H7.out (by omega) [97, 47] (by simp)
  rw [x_p2] at hC
  go_wp2_with fail
  refine hC.mono ?_
  rintro e w8 ⟨rfl, hO, hu⟩
  have H8 : Hid (OnAt w w8 B G X2 590000) := hO
  have HT8 : Hid (Ts w8 w1.heap.size (.slice a 2 cap) [[97], [98]]) := HT7.out.keep hu (fun j hj => by have := HT2.out.2; rcases hj with e | e <;> omega)
  clear hC hO hu H7 HT7
  obtain ⟨W9, hW9⟩ : ∃ W, W = w8.alloc (.cells #[tx [97], tx [98]] 9) := ⟨_, rfl⟩
  obtain ⟨p, hp⟩ : ∃ p, p = w8.heap.size := ⟨_, rfl⟩
  have hb9 : Below w8.heap.size w8 W9 := by rw [hW9]; exact below_alloc _ _
  have hTn : Ts W9 p (.slice (some ⟨p, 0, none⟩) 2 2) [[97], [98]] := ⟨_, 2, rfl, Nat.le_refl _, fun _ => ⟨p, _, _, rfl, Nat.le_refl _, by rw [hp, hW9]; exact heap_alloc_new _ _, fun j t hj => by
    match j, hj with
    | 0, hj => simp at hj; subst hj; rfl
    | 1, hj => simp at hj; subst hj; rfl⟩⟩
  have hC := texts_same _ _ _ _ _ W9 (HT8.out.below hb9) hTn (by simp)
  have H9 : Hid (OnAt w W9 B G X2 590000) := H8.out.below hb9
  have HW9 : Hid (W9 = w8.alloc (.cells #[tx [97], tx [98]] 9)) := hW9
  have Hp : Hid (p = w8.heap.size) := hp
  clear hb9 hTn hW9 hp H8 HT8 HT2
  go_wp2_with fail
  rw [← HW9.out, ← Hp.out]
  refine hC.mono ?_
  rintro e w10 ⟨rfl, hq⟩
  have H10 : Hid (OnAt w w10 B G X2 590000) := H9.out.below (Di.drewN_below hq)
  clear hC hq H9 HW9 Hp
  have hC := on_add H10.out (by omega) 0 [97] (by simp) 1
  rw [x_a2, x_f2] at hC
  go_wp2_with fail
  refine hC.mono ?_
  rintro e w11 ⟨rfl, hO, hu⟩
  have H11 : Hid (OnAt w w11 B G X2 596000) := hO
  clear hC hO hu H10
  have hC := on_find H11.out (by omega) 0 [98]
  rw [x_fd] at hC
  go_wp2_with fail
  refine hC.mono ?_
  rintro e w12 ⟨rfl, hO, hu⟩
  have H12 : Hid (OnAt w w12 B G X2 600000) := hO
  clear hC hO hu H11
  go_wp2
  go_ret
  exact ⟨rfl, H12.out.old⟩
end Go.Proofs.YtcaofdbcgdgbbaaGreatDoor
