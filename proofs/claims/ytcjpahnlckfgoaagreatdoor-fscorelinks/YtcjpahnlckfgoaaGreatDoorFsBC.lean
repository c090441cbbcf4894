/- Plain: names that are taken away; paths made of names; a directory filled. Names no program. -/
/- Package fscore over a store: spotOf, find, walk, nodeOf, isDir, count. -/
/- Package fscore over a store: count, born, create, mkdir. -/
import Derived.Test.YtcjpahnlckfgoaaGreatDoorDirFG
import Derived.Test.YtcjpahnlckfgoaaGreatDoorFsA
import Derived.Test.YtcjpahnlckfgoaaGreatDoorDtH
namespace Go.Proofs.YtcjpahnlckfgoaaGreatDoor
open Go.RowKit
set_option linter.unusedVariables false

theorem place_names (l : List Ent) (s : List UInt8) : placeE l s = (l.map Ent.name).findIdx (fun x => x == s) := by
  unfold placeE
  rw [List.findIdx_map]
  rfl
/-- The names that stay. -/
theorem gone_names : ∀ {l : List Ent} {s : List UInt8}, (l.map Ent.name).Nodup → placeE l s < l.length → (l.take (placeE l s) ++ l.drop (placeE l s + 1)).map Ent.name = (l.map Ent.name).filter (fun x => x != s)
  | [], s, _, h => by simp [placeE] at h
  | e :: l, s, hn, h => by
    simp only [List.map_cons, List.nodup_cons] at hn
    by_cases q : e.name = s
    · have hp : placeE (e :: l) s = 0 := by unfold placeE; simp [List.findIdx_cons, q]
      rw [hp]
      simp only [List.take_zero, List.nil_append, Nat.zero_add, List.drop_succ_cons, List.drop_zero, List.map_cons]
      rw [List.filter_cons_of_neg (by simp [q]), List.filter_eq_self.2]
      intro x hx
      have : x ≠ s := fun z => hn.1 (by rw [q, ← z]; exact hx)
      simpa using this
    · have hp : placeE (e :: l) s = placeE l s + 1 := by
        have hb : (e.name == s) = false := by simpa using q
        unfold placeE
        rw [List.findIdx_cons, hb]
        rfl
      rw [hp] at h ⊢
      have ih := gone_names (l := l) (s := s) hn.2 (by simpa using h)
      simp only [List.take_succ_cons, List.cons_append, List.drop_succ_cons, List.map_cons]
      rw [ih, List.filter_cons_of_pos (by simpa using q)]
theorem none_names {l : List Ent} {s : List UInt8} (h : ¬ placeE l s < l.length) : (l.map Ent.name).filter (fun x => x != s) = l.map Ent.name := by
  rw [List.filter_eq_self.2]
  intro x hx
  obtain ⟨e, he, rfl⟩ := List.mem_map.1 hx
  simpa using place_none h e he
theorem find_no {l : List Ent} {s : List UInt8} (h : s ∉ l.map Ent.name) : findE l s = -1 := by
  unfold findE
  rw [if_neg]
  intro q
  exact h (List.mem_map.2 ⟨_, List.getElem_mem q, (place_hit q).1⟩)
theorem find_gone {l : List Ent} {s : List UInt8} (hn : (l.map Ent.name).Nodup) (h : placeE l s < l.length) : findE (l.take (placeE l s) ++ l.drop (placeE l s + 1)) s = -1 := by
  refine find_no ?_
  rw [gone_names hn h]
  simp
theorem gone_len {l : List Ent} {k : Nat} (h : k < l.length) : (l.take k ++ l.drop (k + 1)).length + 1 = l.length := by
  simp
  omega
/-- A part ends at a slash or at the end. -/
theorem parts_run : ∀ (p cur rest : List UInt8), (∀ b ∈ p, b ≠ 47) → partsP cur (p ++ rest) = partsP (cur ++ p) rest
  | [], cur, rest, _ => by simp
  | b :: p, cur, rest, h => by
    have hb := h b List.mem_cons_self
    show (if b == 47 then _ else partsP (cur ++ [b]) (p ++ rest)) = _
    rw [if_neg (by simpa using hb), parts_run p (cur ++ [b]) rest (fun x hx => h x (List.mem_cons_of_mem _ hx)), List.append_assoc]
    rfl
theorem parts_slash (rest : List UInt8) : partsP [] (47 :: rest) = partsP [] rest := rfl
/-- A path of names: each behind one slash or two. -/
def pathP : List (List UInt8 × Bool) → List UInt8
  | [] => []
  | (p, two) :: l => 47 :: ((if two then [47] else []) ++ p ++ pathP l)
theorem path_stop : ∀ (l : List (List UInt8 × Bool)) (cur : List UInt8), cur ≠ [] → partsP cur (pathP l) = cur :: partsP [] (pathP l)
  | [], cur, h => by
    show (if cur.isEmpty then [] else [cur]) = cur :: partsP [] []
    rw [if_neg (by simpa using h)]
    rfl
  | (p, two) :: l, cur, h => by
    show (if (47 : UInt8) == 47 then (if cur.isEmpty then _ else cur :: partsP [] _) else _) = _
    rw [if_pos (by decide), if_neg (by simpa using h)]
    rfl
theorem path_parts : ∀ {l : List (List UInt8 × Bool)}, (∀ x ∈ l, isName x.1 = true) → partsP [] (pathP l) = l.map Prod.fst
  | [], _ => rfl
  | (p, two) :: l, h => by
    have hp := ent_ok (k := 0) (h (p, two) List.mem_cons_self) (by omega)
    have ih := path_parts (l := l) (fun x hx => h x (List.mem_cons_of_mem _ hx))
    have hne : p ≠ [] := fun e => by have := hp.pos; rw [e] at this; simp at this
    have e1 : partsP [] (pathP ((p, two) :: l)) = partsP [] (p ++ pathP l) := by
      cases two with
      | false => rfl
      | true => rfl
    rw [e1, parts_run p [] (pathP l) hp.ns, List.nil_append, path_stop l p hne, ih]
    rfl
theorem first_names : ∀ {l : List (List UInt8)}, (∀ x ∈ l, isName x = true) → firstE l = 0
  | [], _ => rfl
  | p :: l, h => by
    have hp := h p List.mem_cons_self
    have h0 : partE p = 0 := by
      unfold isName at hp
      simp only [Bool.and_eq_true, decide_eq_true_eq] at hp
      exact hp.2
    show (if partE p = 0 then firstE l else partE p) = 0
    rw [if_pos h0]
    exact first_names (fun x hx => h x (List.mem_cons_of_mem _ hx))
theorem path_split {l : List (List UInt8 × Bool)} (h : ∀ x ∈ l, isName x.1 = true) (h0 : l ≠ []) (h32 : (pathP l).length ≤ 32) : splitR (pathP l) = 0 ∧ splitP (pathP l) = l.map Prod.fst := by
  have hne : pathP l ≠ [] := by
    cases l with
    | nil => exact absurd rfl h0
    | cons x l =>
      obtain ⟨p, two⟩ := x
      intro e
      cases e
  have hf : firstE (partsP [] (pathP l)) = 0 := by
    rw [path_parts h]
    refine first_names (fun x hx => ?_)
    obtain ⟨y, hy, rfl⟩ := List.mem_map.1 hx
    exact h y hy
  unfold splitR splitP
  rw [if_neg hne, if_neg hne, if_neg (by omega), if_neg (by omega), if_pos hf, path_parts h]
  exact ⟨by rw [← path_parts h]; exact hf, rfl⟩
/-- The same walk, one part more. -/
theorem walk_snoc (F : FS) : ∀ (l : List (List UInt8)) (i k : Int) (p : List UInt8), wkR F i l = (k, 0) → isD F k = true → 0 ≤ fdR F k p → wkR F i (l ++ [p]) = (fdR F k p, 0)
  | [], i, k, p, h, hd, hf => by
    have e : i = k := by
      have : (i, (0 : Int)) = (k, 0) := h
      simpa using this
    subst e
    show (if isD F i = false then _ else if fdR F i p < 0 then _ else wkR F (fdR F i p) []) = _
    rw [hd, if_neg (by simp), if_neg (by omega)]
    rfl
  | q :: l, i, k, p, h, hd, hf => by
    have h' : (if isD F i = false then ((0 : Int), (20 : Int)) else if fdR F i q < 0 then (0, 2) else wkR F (fdR F i q) l) = (k, 0) := h
    show (if isD F i = false then ((0 : Int), (20 : Int)) else if fdR F i q < 0 then (0, 2) else wkR F (fdR F i q) (l ++ [p])) = _
    cases hi : isD F i with
    | false => rw [hi, if_pos rfl] at h'; simp at h'
    | true =>
      rw [hi, if_neg (by simp)] at h'
      rw [if_neg (by simp)]
      by_cases hn : fdR F i q < 0
      · rw [if_pos hn] at h'; simp at h'
      · rw [if_neg hn] at h' ⊢
        exact walk_snoc F l _ k p h' hd hf
end Go.Proofs.YtcjpahnlckfgoaaGreatDoor

namespace Go.Proofs.YtcjpahnlckfgoaaGreatDoor
open Go.RowKit
set_option linter.unusedVariables false

/-- An inode has so many links. -/
def lkF (F : FS) (i : Nat) (l : Int) : FS := F.put2 i ⟨(F.ino i).kind, l, (F.ino i).txt, (F.ino i).blk⟩ F.iw F.bw
theorem lk_same (F : FS) (i : Nat) (l : Int) : (lkF F i l).ino i = ⟨(F.ino i).kind, l, (F.ino i).txt, (F.ino i).blk⟩ := if_pos rfl
theorem lk_other (F : FS) (i : Nat) (l : Int) {j : Nat} (h : j ≠ i) : (lkF F i l).ino j = F.ino j := if_neg h
theorem lk_kind (F : FS) (i : Nat) (l : Int) (j : Nat) : ((lkF F i l).ino j).kind = (F.ino j).kind := by
  by_cases e : j = i
  · rw [e, lk_same]
  · rw [lk_other F i l e]
theorem lk_txt (F : FS) (i : Nat) (l : Int) (j : Nat) : ((lkF F i l).ino j).txt = (F.ino j).txt := by
  by_cases e : j = i
  · rw [e, lk_same]
  · rw [lk_other F i l e]
theorem lk_blk (F : FS) (i : Nat) (l : Int) (j : Nat) : ((lkF F i l).ino j).blk = (F.ino j).blk := by
  by_cases e : j = i
  · rw [e, lk_same]
  · rw [lk_other F i l e]
theorem FInv.lk {F : FS} (h : FInv F) {i : Nat} (hi : i < 32) (hu : Bi.bt F.iw i = true) {l : Int} (h0 : 0 ≤ l) (h1 : l < 9223372036854775808) : FInv (lkF F i l) := by
  refine ⟨h.n1, h.n2, h.iw, h.bw, h.low, h.root, fun j hj hn => ?_, fun j hj => by rw [lk_txt]; exact h.max j hj, fun j hj => by rw [lk_txt]; exact h.byte j hj, fun j hj => ?_, fun j hj => by rw [lk_blk, lk_txt]; exact h.len j hj, fun j hj => by rw [lk_blk]; exact h.data j hj, fun j k a b c => by rw [lk_blk, lk_blk]; exact h.one j k a b c, fun j hj => by rw [lk_blk]; exact h.nd j hj, fun b a1 a2 a3 => ?_⟩
  · have hn' : Bi.bt F.iw j = false := hn
    have e : j ≠ i := fun e => by rw [e, hu] at hn'; cases hn'
    rw [lk_other F i l e]
    exact h.none j hj hn'
  · by_cases e : j = i
    · have := h.num i hi
      rw [e, lk_same]
      exact ⟨this.1, this.2.1, h0, h1⟩
    · rw [lk_other F i l e]
      exact h.num j hj
  · obtain ⟨j, hj, hb⟩ := h.whose b a1 a2 a3
    exact ⟨j, hj, by rw [lk_blk]; exact hb⟩
theorem AllD.lk {F : FS} (h : AllD F) (i : Nat) (l : Int) : AllD (lkF F i l) := fun j hj hk => by
  rw [lk_kind] at hk
  obtain ⟨es, he⟩ := h j hj hk
  exact ⟨es, ⟨by rw [lk_kind]; exact he.kind, by rw [lk_txt]; exact he.txt, he.ok, he.nd, he.most⟩⟩
theorem splice_same {vs : List Int} {n b : Nat} (hl : vs.length = n * 32) (hb : b < n) : splice vs (b * 32) (frameOf vs b) = vs := by
  have h1 := frameOf_length vs b n hl hb
  refine frames_ext (by rw [splice_length _ _ _ (by rw [hl, h1]; omega), hl]) hl (fun k hk => ?_)
  rw [frame_splice vs _ n b k hl hb hk h1]
  split
  · rename_i e; rw [e]
  · rfl
theorem lk_holds {vs : List Int} {F : FS} (hH : Holds vs F) (hF : FInv F) {i : Nat} (hi : i < 32) (l : Int) : Holds (putW vs i (⟨(F.ino i).kind, l, (F.ino i).txt, (F.ino i).blk⟩ : Ino).row) (lkF F i l) := by
  have hn1 := hF.n1
  have h := holds_close hH hF hi (x := ⟨(F.ino i).kind, l, (F.ino i).txt, (F.ino i).blk⟩) (iw := F.iw) (bw := F.bw) (hF.six hi) hF.iw.len (by have := hF.bw.len; have := hF.n2; omega) rfl (fun b _ => rfl) (fun k b hb => by
    have hd := hF.data i hi b (List.mem_of_getElem? hb)
    exact ⟨hd.1, hd.2.1, hH.data i hi k b hb⟩) (fun m _ _ b _ => rfl)
  have e : splice vs 0 (hdW F.n F.iw F.bw) = vs := by
    have := splice_same (b := 0) hH.len (by omega)
    rw [hH.head, Nat.zero_mul] at this
    exact this
  rw [e] at h
  exact h
/-- Where a call ends: it answers, or gives up. -/
def Res (B : Sto) (n m : Nat) (o : Int) (F' : FS) (v : Value) (w : World) : Ending → World → Prop := fun e w' =>
  (o = 0 ∧ e = .returned v ∧ Fs w' B F' m ∧ BG B w w') ∨ ((o != 0) = true ∧ e = .panicked (pan o) ∧ (∃ ws, Dk w' B n ws m) ∧ BG B w w')
section
variable {w w' : World} {m : Nat} {B : Sto} {F : FS}
theorem Fs.dk (h : Fs w B F m) : ∃ ws, Dk w B F.n ws m := by
  obtain ⟨vs, h⟩ := h
  exact ⟨vs, h.disk⟩
theorem ne_bool {x : Int} (h : ¬ x = 0) : (x != 0) = true := by simpa using h
theorem set2_heap {r : Nat} {a b : Value} {t : TypeId} (h : w.heap[r]? = some (.cells #[a, b] t)) (x y : Value) : ((w.setCell ⟨r, 0, none⟩ x).setCell ⟨r, 1, none⟩ y).heap[r]? = some (.cells #[x, y] t) := by
  have h1 : (w.setCell ⟨r, 0, none⟩ x).heap[r]? = some (.cells #[x, b] t) := by rw [setCell_eq_setRow w r 0 _ _ _ _ h, setRow_heap w r _ _ _ _ h]; rfl
  rw [setCell_eq_setRow _ r 1 _ _ _ _ h1, setRow_heap _ r _ _ _ _ h1]
  rfl
theorem spotSize : (Tryz.prog.info? 180).map (·.size) = some 2 := by kernel_rfl
set_option maxHeartbeats 1000000 in
set_option maxRecDepth 100000 in
theorem fspot_at (h : Fs w B F m) (hA : AllD F) (hm : m ≤ 700000000000) (p : List UInt8) (hp : p.length ≤ 9223372036854775807) :
    Calls Tryz.prog 117 #[sto B, tx p] w (Res B F.n (m + 225000) (paR F p).2.2 F (.agg #[.int .i64 (paR F p).1, tx (paR F p).2.1]) w) := by
  obtain ⟨W0, hW0⟩ : ∃ W, W = w.alloc (.cells #[.int .i64 0, .string ⟨#[]⟩] 180) := ⟨_, rfl⟩
  have hb0 : Below w.heap.size w W0 := by rw [hW0]; exact below_alloc _ _
  have hr0 : W0.heap[w.heap.size]? = some (.cells #[.int .i64 0, .string ⟨#[]⟩] 180) := by rw [hW0]; exact heap_alloc_new _ _
  have hP := Parent_at (h.below hb0) hA hm p hp
  have HW0 : Hid _ := hW0
  have HB0 : Hid (Below w.heap.size w W0) := hb0
  have HR0 : Hid _ := hr0
  obtain ⟨r, hr⟩ : ∃ r, r = w.heap.size := ⟨_, rfl⟩
  have Hr : Hid (r = w.heap.size) := hr
  clear h hW0 hb0 hr0 hr
  generalize (paR F p).1 = i at *
  generalize (paR F p).2.1 = s at *
  generalize (paR F p).2.2 = er at *
  go_enter Tryz.func117, Tryz.ntmps117
  go_wp2_with fail
  rw [← HW0.out, ← Hr.out]
  refine hP.mono ?_
  rintro e w1 ⟨rfl, hf, hbg⟩
  have h1 : w1.heap[r]? = some (.cells #[.int .i64 0, .string ⟨#[]⟩] 180) := hbg.other (by rw [Hr.out]; exact HR0.out) (by decide)
  have HF : Hid (Fs w1 B F (m + 225000) ∧ BG B w w1) := ⟨hf, SU.trans (SU.of_below HB0.out) hbg⟩
  have c0 : w1.cell? ⟨r, 0, none⟩ = some (.int .i64 0) := by rw [cell_of_heap h1]; rfl
  have c1 : w1.cell? ⟨r, 1, none⟩ = some (.string ⟨#[]⟩) := by rw [cell_of_heap h1]; rfl
  have fz : ∀ k, w1.frozen? ⟨r, k, none⟩ = false := fun k => frozen_of_heap h1
  have H1 : Hid _ := h1
  clear hP hf hbg h1
  by_cases her : er = 0
  · subst her
    go_wp2_with (go_at_call 102; refine (must_ok _).mono ?_; rintro e w2 ⟨rfl, hw⟩; rw [hw]; clear hw w2)
    refine bodyPost_ret (v := .agg #[.int .i64 i, tx s]) ?_ rfl (Or.inl ⟨rfl, rfl, ?_⟩)
    · rw [results_cell_row rfl _ _ r 180 #[.int .i64 i, tx s] (0, 0) _ rfl (set2_heap H1.out _ _) Tryz.underlying180 rfl spotSize]
    · have hu : Upd r w1 ((w1.setCell ⟨r, 0, none⟩ (.int .i64 i)).setCell ⟨r, 1, none⟩ (tx s)) := (Upd.setCell _ _ _ _).trans (Upd.setCell _ _ _ _)
      exact ⟨HF.out.1.keep (fun k hk => hu.block k hk.lt (fun e => not_isSt H1.out (by decide) (by rw [← e]; exact hk))), SU.new HF.out.2 hu (by rw [Hr.out]; exact Nat.le_refl _)⟩
  · have hne := ne_bool her
    have HNe : Hid ((er != 0) = true) := hne
    go_wp2_with (go_at_call 102; refine (must_no er HNe.out _).mono ?_; rintro e w2 ⟨rfl, hw⟩; rw [hw]; clear hw w2)
    exact ⟨rfl, Or.inr ⟨HNe.out, rfl, HF.out.1.dk, HF.out.2⟩⟩
set_option maxHeartbeats 1000000 in
set_option maxRecDepth 100000 in
theorem ffind_at (h : Fs w B F m) (hA : AllD F) (hm : m ≤ 800000000000) (i : Int) (s : List UInt8) :
    Calls Tryz.prog 118 #[.agg #[.int .i64 i, tx s], sto B] w fun e w' => e = .returned (.int .i64 (fdR F i s)) ∧ Fs w' B F (m + 6000) ∧ BG B w w' := by
  obtain ⟨W0, hW0⟩ : ∃ W, W = w.alloc (.cells #[.int .i64 i, tx s] 180) := ⟨_, rfl⟩
  have hb0 : Below w.heap.size w W0 := by rw [hW0]; exact below_alloc _ _
  have hF := Find_at (h.below hb0) hA hm i s
  have HW0 : Hid _ := hW0
  have HB0 : Hid (Below w.heap.size w W0) := hb0
  clear h hW0 hb0
  generalize fdR F i s = r at *
  go_enter Tryz.func118, Tryz.ntmps118
  go_wp2_with fail
  rw [← HW0.out]
  refine hF.mono ?_
  rintro e w1 ⟨rfl, hf, hbg⟩
  have HF : Hid (Fs w1 B F (m + 6000) ∧ BG B w w1) := ⟨hf, SU.trans (SU.of_below HB0.out) hbg⟩
  clear hF hf hbg
  go_wp2
  go_ret
  exact ⟨rfl, HF.out⟩
set_option maxHeartbeats 1000000 in
set_option maxRecDepth 100000 in
theorem fwalk_at (h : Fs w B F m) (hA : AllD F) (hm : m ≤ 700000000000) (p : List UInt8) (hp : p.length ≤ 9223372036854775807) :
    Calls Tryz.prog 121 #[sto B, tx p] w (Res B F.n (m + 210000) (walkR F p).2 F (.int .i64 (walkR F p).1) w) := by
  have hW := Walk_at h hA hm p hp
  clear h
  generalize (walkR F p).1 = i at *
  generalize (walkR F p).2 = er at *
  go_enter Tryz.func121, Tryz.ntmps121
  go_wp2_with fail
  refine hW.mono ?_
  rintro e w1 ⟨rfl, hf, hbg⟩
  have HF : Hid (Fs w1 B F (m + 210000) ∧ BG B w w1) := ⟨hf, hbg⟩
  clear hW hf hbg
  by_cases her : er = 0
  · subst her
    go_wp2_with (go_at_call 102; refine (must_ok _).mono ?_; rintro e w2 ⟨rfl, hw⟩; rw [hw]; clear hw w2)
    go_ret
    exact Or.inl ⟨rfl, rfl, HF.out⟩
  · have HNe : Hid ((er != 0) = true) := ne_bool her
    go_wp2_with (go_at_call 102; refine (must_no er HNe.out _).mono ?_; rintro e w2 ⟨rfl, hw⟩; rw [hw]; clear hw w2)
    exact ⟨rfl, Or.inr ⟨HNe.out, rfl, HF.out.1.dk, HF.out.2⟩⟩
set_option maxHeartbeats 2000000 in
set_option maxRecDepth 100000 in
theorem fnode_at (h : Fs w B F m) (hm : m ≤ 900000000000) (i : Nat) (hi : i < 32) :
    Calls Tryz.prog 134 #[sto B, .int .i64 (i : Int)] w fun e w' => e = .returned (.agg (irow (F.ino i).row)) ∧ Fs w' B F (m + 3000) ∧ BG B w w' := by
  obtain ⟨W0, hW0⟩ : ∃ W, W = w.alloc (.cells zi 63) := ⟨_, rfl⟩
  have hb0 : Below w.heap.size w W0 := by rw [hW0]; exact below_alloc _ _
  have hr0 : W0.heap[w.heap.size]? = some (.cells zi 63) := by rw [hW0]; exact heap_alloc_new _ _
  have HRl : Hid ((F.ino i).row.length = 9) := Ino.row_len (h.inv.six hi)
  have hG := get_fs (h.below hb0) hm i hi
  have HW0 : Hid _ := hW0
  have HB0 : Hid (Below w.heap.size w W0) := hb0
  have HR0 : Hid _ := hr0
  obtain ⟨r, hr⟩ : ∃ r, r = w.heap.size := ⟨_, rfl⟩
  have Hr : Hid (r = w.heap.size) := hr
  obtain ⟨R, hR⟩ : ∃ R, R = irow (F.ino i).row := ⟨_, rfl⟩
  have HRs : Hid (R.size = 9) := by rw [hR]; show _ = _; rw [irow_size]; exact HRl.out
  have HRo : Hid (R.all (·.oneCell') = true) := by rw [hR]; exact irow_one _
  rw [← hR] at hG ⊢
  have hz := lit_zi
  clear h hW0 hb0 hr0 hr hR
  go_enter Tryz.func134, Tryz.ntmps134
  go_wp2_with fail
  rw [← HW0.out, ← Hr.out]
  refine hG.mono ?_
  rintro e w1 ⟨rfl, hf, hbg⟩
  have h1 : w1.heap[r]? = some (.cells zi 63) := hbg.other (by rw [Hr.out]; exact HR0.out) (by decide)
  have HF : Hid (Fs w1 B F (m + 3000) ∧ BG B w w1) := ⟨hf, SU.trans (SU.of_below HB0.out) hbg⟩
  obtain ⟨W2, hW2⟩ : ∃ W, W = w1.alloc (.cells R 63) := ⟨_, rfl⟩
  have hb2 : Below w1.heap.size w1 W2 := by rw [hW2]; exact below_alloc _ _
  have HP2 : Hid (W2.heap[w1.heap.size]? = some (.cells R 63)) := by rw [hW2]; exact heap_alloc_new _ _
  have HR2 : Hid (W2.heap[r]? = some (.cells zi 63)) := (hb2.block _ (lt_of_heap h1)).trans h1
  have HB2 : Hid (Below w1.heap.size w1 W2) := hb2
  have HW2 : Hid _ := hW2
  obtain ⟨p, hp⟩ : ∃ p, p = w1.heap.size := ⟨_, rfl⟩
  have Hp : Hid (p = w1.heap.size) := hp
  clear hG hf hbg h1 hW2 hb2 hp
  go_wp2_with (first
    | (refine wpList_store_row rfl 63 _ _ rfl w1.heap.size R rfl rfl 63 zi (heap_alloc_new _ _) (by rw [HRs.out]; exact inoSize) (by rw [HRs.out]; rfl) HRo.out ?_; rw [setRow_alloc_new, ← HW2.out, ← Hp.out])
    | (go_at_call 102; refine (must_ok _).mono ?_; rintro e w2 ⟨rfl, hw⟩; rw [hw]; clear hw w2)
    | (refine wpList_load_row rfl 63 _ rfl p rfl 63 R (0, 0) _ (by rw [Hp.out]; exact HP2.out) Tryz.underlying63 rfl (by rw [HRs.out]; exact inoSize) ?_)
    | (refine wpList_store_row rfl 63 _ _ rfl r R rfl rfl 63 zi HR2.out (by rw [HRs.out]; exact inoSize) (by rw [HRs.out]; rfl) HRo.out ?_)
    | go_in)
  refine bodyPost_ret (v := .agg R) ?_ rfl ⟨rfl, ?_⟩
  · rw [results_cell_row rfl _ _ r 63 R (0, 0) _ rfl (setRow_heap W2 r _ _ _ _ HR2.out) Tryz.underlying63 rfl (by rw [HRs.out]; exact inoSize)]
  · exact ⟨(HF.out.1.below HB2.out).keep (fun k hk => setRow_other _ _ _ _ (fun e => not_isSt HR2.out (by decide) (by rw [← e]; exact hk))), SU.new (SU.trans HF.out.2 (SU.of_below HB2.out)) (Upd.setRow r W2 R) (by rw [Hr.out]; exact Nat.le_refl _)⟩
theorem row9 (x : Ino) (h : x.blk.length ≤ 6) : ∃ c d e f g j : Int, x.row = [x.kind, x.links, (x.txt.length : Int), c, d, e, f, g, j] := by
  have hl := Ino.row_len h
  unfold Ino.row at hl ⊢
  match hq : x.blk.map (fun b : Nat => (b : Int)) ++ List.replicate (6 - x.blk.length) 0 with
  | [c, d, e, f, g, j] =>
    refine ⟨c, d, e, f, g, j, ?_⟩
    rw [List.append_assoc, hq]
    rfl
  | [] => rw [List.append_assoc, hq] at hl; simp at hl
  | [_] => rw [List.append_assoc, hq] at hl; simp at hl
  | [_, _] => rw [List.append_assoc, hq] at hl; simp at hl
  | [_, _, _] => rw [List.append_assoc, hq] at hl; simp at hl
  | [_, _, _, _] => rw [List.append_assoc, hq] at hl; simp at hl
  | [_, _, _, _, _] => rw [List.append_assoc, hq] at hl; simp at hl
  | _ :: _ :: _ :: _ :: _ :: _ :: _ :: l => rw [List.append_assoc, hq] at hl; simp at hl
set_option maxHeartbeats 2000000 in
set_option maxRecDepth 100000 in
theorem fisdir_at (h : Fs w B F m) (hm : m ≤ 900000000000) (i : Nat) (hi : i < 32) :
    Calls Tryz.prog 120 #[sto B, .int .i64 (i : Int)] w fun e w' => e = .returned (.bool (isD F (i : Int))) ∧ Fs w' B F (m + 3000) ∧ BG B w w' := by
  have hN := fnode_at h hm i hi
  obtain ⟨c, d, e, f, g, j, hr⟩ := row9 (F.ino i) (h.inv.six hi)
  rw [hr] at hN
  have hd : isD F (i : Int) = ((F.ino i).kind == 2) := by unfold isD; rw [isI_nat hi]; simp [BEq.beq]
  rw [hd]
  have e1 : irow [(F.ino i).kind, (F.ino i).links, ((F.ino i).txt.length : Int), c, d, e, f, g, j] = #[.int .i64 (F.ino i).kind, .int .i64 (F.ino i).links, .int .i64 ((F.ino i).txt.length : Int), .int .i64 c, .int .i64 d, .int .i64 e, .int .i64 f, .int .i64 g, .int .i64 j] := rfl
  rw [e1] at hN
  clear e1 hr hd h
  generalize (F.ino i).kind = kd at *
  generalize (F.ino i).links = lk at *
  generalize ((F.ino i).txt.length : Int) = sz at *
  have hfd : ∀ W : World, (Instr.field 63 (.agg #[.int .i64 kd, .int .i64 lk, .int .i64 sz, .int .i64 c, .int .i64 d, .int .i64 e, .int .i64 f, .int .i64 g, .int .i64 j]) 0).run Tryz.prog W = .ok (.int .i64 kd) W := fun W => by kernel_rfl
  go_enter Tryz.func120, Tryz.ntmps120
  go_wp2_with fail
  refine hN.mono ?_
  rintro x w1 ⟨rfl, hf, hbg⟩
  have HF : Hid (Fs w1 B F (m + 3000) ∧ BG B w w1) := ⟨hf, hbg⟩
  clear hN hf hbg
  go_wp2
  go_ret
  exact ⟨rfl, HF.out⟩
end
end Go.Proofs.YtcjpahnlckfgoaaGreatDoor

namespace Go.Proofs.YtcjpahnlckfgoaaGreatDoor
open Go.RowKit
set_option linter.unusedVariables false

/-- A new inode under a name: what is answered, left. -/
def bnF1 (F : FS) (kind : Int) : FS := lkF (alF F kind) (alN F) 1
def bnR (F : FS) (d : Int) (s : List UInt8) (kind : Int) : Int := if alR F = 0 then (if adR (bnF1 F kind) d s (alN F) = 0 then 0 else 28) else 28
def bnF (F : FS) (d : Int) (s : List UInt8) (kind : Int) : FS := adF (bnF1 F kind) d s (alN F)
/-- Create. -/
def crR (F : FS) (p : List UInt8) : Int := if (paR F p).2.2 = 0 then (if fdR F (paR F p).1 (paR F p).2.1 < 0 then bnR F (paR F p).1 (paR F p).2.1 1 else if isD F (fdR F (paR F p).1 (paR F p).2.1) = true then 21 else 0) else (paR F p).2.2
def crF (F : FS) (p : List UInt8) : FS := if fdR F (paR F p).1 (paR F p).2.1 < 0 then bnF F (paR F p).1 (paR F p).2.1 1 else F
def crI (F : FS) (p : List UInt8) : Int := if fdR F (paR F p).1 (paR F p).2.1 < 0 then (alN F : Int) else fdR F (paR F p).1 (paR F p).2.1
/-- Mkdir. -/
def mkR (F : FS) (p : List UInt8) : Int := if (paR F p).2.2 = 0 then (if fdR F (paR F p).1 (paR F p).2.1 < 0 then bnR F (paR F p).1 (paR F p).2.1 2 else 17) else (paR F p).2.2
def mkF (F : FS) (p : List UInt8) : FS := bnF F (paR F p).1 (paR F p).2.1 2

theorem adF_n (F : FS) (i : Int) (s : List UInt8) (to : Int) : (adF F i s to).n = F.n := by
  unfold adF
  split
  · exact (wrF_iw _ _ _ _).2
  · rfl
theorem alN_free {F : FS} (h : alN F < 32) : Bi.bt F.iw (alN F) = false := (lowN_hit h).1
theorem al_ino {F : FS} (h : alN F < 32) (kind : Int) : (alF F kind).ino (alN F) = ⟨kind, 0, [], []⟩ := by
  unfold alF
  rw [if_pos h]
  exact if_pos rfl
theorem al_other {F : FS} (kind : Int) {j : Nat} (hj : j ≠ alN F) : (alF F kind).ino j = F.ino j := by
  unfold alF
  split
  · exact if_neg hj
  · rfl
theorem al_use {F : FS} (hF : FInv F) (h : alN F < 32) (kind : Int) (j : Nat) : Bi.bt (alF F kind).iw j = if j = alN F then true else Bi.bt F.iw j := by
  unfold alF
  rw [if_pos h]
  exact Bi.bt_mkW F.iw (alN F) j true (hF.iw.at h)
theorem AllD.al {F : FS} (h : AllD F) (kind : Int) : AllD (alF F kind) := by
  unfold alF
  split
  · exact h.alloc _ _
  · exact h
section
variable {w w' : World} {m : Nat} {B : Sto} {F : FS}
theorem fits_lk {F : FS} (hF : FInv F) {i : Nat} (hi : i < 32) {l : Int} (h0 : 0 ≤ l) (h1 : l < 9223372036854775808) : ∀ x ∈ (⟨(F.ino i).kind, l, (F.ino i).txt, (F.ino i).blk⟩ : Ino).row, Fit x := by
  have h2 := hF.num i hi
  have h3 := hF.max i hi
  intro x hx
  unfold Ino.row at hx
  simp only [List.mem_append, List.mem_cons, List.mem_map, List.not_mem_nil, or_false] at hx
  rcases hx with ((rfl | rfl | rfl) | ⟨b, hb, rfl⟩) | hx
  · exact ⟨h2.1, h2.2.1⟩
  · exact ⟨h0, h1⟩
  · exact ⟨by omega, by omega⟩
  · have := (hF.data i hi b hb).2.1
    have := hF.n2
    exact ⟨by omega, by omega⟩
  · rw [List.eq_of_mem_replicate hx]
    exact ⟨by omega, by omega⟩
/-- Put of an inode with another number of links. -/
theorem put_lk (h : Fs w B F m) (hm : m ≤ 900000000000) (i : Nat) (hi : i < 32) (hu : Bi.bt F.iw i = true) (l : Int) (h0 : 0 ≤ l) (h1 : l < 9223372036854775808) :
    Calls Tryz.prog 170 #[sto B, .int .i64 (i : Int), .agg (irow (⟨(F.ino i).kind, l, (F.ino i).txt, (F.ino i).blk⟩ : Ino).row)] w fun e w' => e = .returned (.int .i64 0) ∧ Fs w' B (lkF F i l) (m + 3000) ∧ BG B w w' := by
  have hF := h.inv
  obtain ⟨vs, h⟩ := h
  have hf := fits_lk hF hi (l := l) h0 h1
  have hlen : (⟨(F.ino i).kind, l, (F.ino i).txt, (F.ino i).blk⟩ : Ino).row.length = 9 := Ino.row_len (hF.six hi)
  have hH := lk_holds h.hold hF hi l
  generalize (⟨(F.ino i).kind, l, (F.ino i).txt, (F.ino i).blk⟩ : Ino).row = xs at *
  refine (put_in h.dk hm hF.n1 hF.n2 i hi xs hlen hf).mono ?_
  rintro e w1 ⟨rfl, hd, hb⟩
  exact ⟨rfl, ⟨_, hd, hH, hF.lk hi hu h0 h1⟩, hb⟩
set_option maxHeartbeats 4000000 in
set_option maxRecDepth 100000 in
theorem fcount_at (h : Fs w B F m) (hm : m ≤ 800000000000) (i : Nat) (hi : i < 32) (hu : Bi.bt F.iw i = true) (by_ : Int) (hb1 : -1 ≤ by_) (hb2 : by_ ≤ 1) (h0 : 0 ≤ (F.ino i).links + by_) (h1 : (F.ino i).links + by_ ≤ 1000) :
    Calls Tryz.prog 123 #[sto B, .int .i64 (i : Int), .int .i64 by_] w fun e w' => e = .returned (.int .i64 ((F.ino i).links + by_)) ∧ Fs w' B (lkF F i ((F.ino i).links + by_)) (m + 6000) ∧ BG B w w' := by
  have hN := fnode_at h (by omega) i hi
  obtain ⟨c, d, e, f, g, j, hr⟩ := row9 (F.ino i) (h.inv.six hi)
  have hrow : ∀ l : Int, (⟨(F.ino i).kind, l, (F.ino i).txt, (F.ino i).blk⟩ : Ino).row = [(F.ino i).kind, l, ((F.ino i).txt.length : Int), c, d, e, f, g, j] := fun l => by
    have e1 : (F.ino i).row = (F.ino i).kind :: (F.ino i).links :: (((F.ino i).txt.length : Int) :: ((F.ino i).blk.map (fun b : Nat => (b : Int)) ++ List.replicate (6 - (F.ino i).blk.length) 0)) := rfl
    have e2 : (⟨(F.ino i).kind, l, (F.ino i).txt, (F.ino i).blk⟩ : Ino).row = (F.ino i).kind :: l :: (((F.ino i).txt.length : Int) :: ((F.ino i).blk.map (fun b : Nat => (b : Int)) ++ List.replicate (6 - (F.ino i).blk.length) 0)) := rfl
    rw [e1] at hr
    simp only [List.cons.injEq, true_and] at hr
    rw [e2, hr]
  obtain ⟨l, hl⟩ : ∃ l, l = (F.ino i).links + by_ := ⟨_, rfl⟩
  have HPut : Hid (∀ W : World, Fs W B F (m + 3000) → Calls Tryz.prog 170 #[sto B, .int .i64 (i : Int), .agg #[.int .i64 (F.ino i).kind, .int .i64 l, .int .i64 ((F.ino i).txt.length : Int), .int .i64 c, .int .i64 d, .int .i64 e, .int .i64 f, .int .i64 g, .int .i64 j]] W fun e w' => e = .returned (.int .i64 0) ∧ Fs w' B (lkF F i l) (m + 6000) ∧ BG B W w') := fun W hW => by
    have := put_lk hW (by omega) i hi hu l (by omega) (by omega)
    rw [hrow l] at this
    exact this
  have e1 : irow [(F.ino i).kind, (F.ino i).links, ((F.ino i).txt.length : Int), c, d, e, f, g, j] = #[.int .i64 (F.ino i).kind, .int .i64 (F.ino i).links, .int .i64 ((F.ino i).txt.length : Int), .int .i64 c, .int .i64 d, .int .i64 e, .int .i64 f, .int .i64 g, .int .i64 j] := rfl
  rw [hr, e1] at hN
  have hw : IntKind.i64.wrap ((F.ino i).links + by_) = l := by
    rw [hl]
    have := (h.inv.num i hi).2.2
    have h2 := Bi.wrap_small ((F.ino i).links + by_).toNat (by omega)
    rwa [Int.toNat_of_nonneg h0] at h2
  have Hl : Hid (l = (F.ino i).links + by_) := hl
  rw [← hl]
  clear h hr hrow e1 hl h0 h1 hb1 hb2
  generalize (F.ino i).kind = kd at *
  generalize (F.ino i).links = lk at *
  generalize ((F.ino i).txt.length : Int) = sz at *
  go_enter Tryz.func123, Tryz.ntmps123
  go_wp2_with fail
  refine hN.mono ?_
  rintro x w1 ⟨rfl, hf, hbg⟩
  obtain ⟨W2, hW2⟩ : ∃ W, W = w1.alloc (.cells #[.int .i64 kd, .int .i64 l, .int .i64 sz, .int .i64 c, .int .i64 d, .int .i64 e, .int .i64 f, .int .i64 g, .int .i64 j] 63) := ⟨_, rfl⟩
  have hb2 : Below w1.heap.size w1 W2 := by rw [hW2]; exact below_alloc _ _
  have hP := HPut.out W2 (hf.below hb2)
  have HP2 : Hid (W2.heap[w1.heap.size]? = some (.cells #[.int .i64 kd, .int .i64 l, .int .i64 sz, .int .i64 c, .int .i64 d, .int .i64 e, .int .i64 f, .int .i64 g, .int .i64 j] 63)) := by rw [hW2]; exact heap_alloc_new _ _
  have HU : Hid (BG B w W2) := SU.trans hbg (SU.of_below hb2)
  have HW2 : Hid _ := hW2
  obtain ⟨p, hp⟩ : ∃ p, p = w1.heap.size := ⟨_, rfl⟩
  have Hp : Hid (p = w1.heap.size) := hp
  clear hN hf hbg hW2 hb2 hp HPut
  go_wp2_with fail
  rw [← HW2.out, ← Hp.out]
  refine hP.mono ?_
  rintro x w3 ⟨rfl, hf3, hbg3⟩
  have h3 := hbg3.other HP2.out (by decide)
  rw [← Hp.out] at h3
  have c3 : w3.cell? ⟨p, 1, none⟩ = some (.int .i64 l) := by rw [cell_of_heap h3]; rfl
  have HF : Hid (Fs w3 B (lkF F i l) (m + 6000) ∧ BG B w w3) := ⟨hf3, SU.trans HU.out hbg3⟩
  clear hP hf3 hbg3 h3 hw
  go_wp2_with (go_at_call 102; refine (must_ok _).mono ?_; rintro e w2 ⟨rfl, hw⟩; rw [hw]; clear hw w2)
  go_ret
  exact ⟨rfl, HF.out⟩
theorem spot_row {r : Nat} {i : Int} {s : List UInt8} (h : w.heap[r]? = some (.cells #[.int .i64 i, tx s] 180)) : w.cell? ⟨r, 0, none⟩ = some (.int .i64 i) ∧ w.cell? ⟨r, 1, none⟩ = some (tx s) := by
  constructor <;> (rw [cell_of_heap h]; rfl)
set_option maxHeartbeats 4000000 in
set_option maxRecDepth 100000 in
theorem fborn_at (h : Fs w B F m) (hA : AllD F) (hm : m ≤ 700000000000) (d : Int) (s : List UInt8) (hs : s.length ≤ 9223372036854775807) (kind : Int) (hk : kind = 1 ∨ kind = 2) :
    Calls Tryz.prog 119 #[sto B, .agg #[.int .i64 d, tx s], .int .i64 kind] w (Res B F.n (m + 18000) (bnR F d s kind) (bnF F d s kind) (.int .i64 (alN F : Int)) w) := by
  obtain ⟨W0, hW0⟩ : ∃ W, W = w.alloc (.cells #[.int .i64 d, tx s] 180) := ⟨_, rfl⟩
  have hb0 : Below w.heap.size w W0 := by rw [hW0]; exact below_alloc _ _
  have hr0 : W0.heap[w.heap.size]? = some (.cells #[.int .i64 d, tx s] 180) := by rw [hW0]; exact heap_alloc_new _ _
  have hAl := alloc_all (h.below hb0) (by omega) kind (by rcases hk with rfl | rfl <;> exact ⟨by omega, by omega⟩)
  have HW0 : Hid _ := hW0
  have HB0 : Hid (Below w.heap.size w W0) := hb0
  have HR0 : Hid _ := hr0
  have HA : Hid (AllD F) := hA
  have HI : Hid (FInv F) := h.inv
  obtain ⟨r, hr⟩ : ∃ r, r = w.heap.size := ⟨_, rfl⟩
  have Hr : Hid (r = w.heap.size) := hr
  clear h hW0 hb0 hr0 hr hA
  by_cases hn : alN F < 32
  · have e1 : alI F = (alN F : Int) := by unfold alI; rw [if_pos hn]
    have e2 : alR F = 0 := by unfold alR; rw [if_pos hn]
    have HO : Hid (bnR F d s kind = if adR (bnF1 F kind) d s (alN F) = 0 then 0 else 28) := by show _ = _; unfold bnR; rw [if_pos e2]
    rw [e1, e2] at hAl
    have hino := al_ino hn kind
    have hus := al_use HI.out hn kind (alN F)
    rw [if_pos rfl] at hus
    have hlk : ((alF F kind).ino (alN F)).links + 1 = 1 := by rw [hino]; rfl
    have HC : Hid (∀ W : World, Fs W B (alF F kind) (m + 3000) → Calls Tryz.prog 123 #[sto B, .int .i64 (alN F : Int), .int .i64 1] W fun e w' => e = .returned (.int .i64 1) ∧ Fs w' B (bnF1 F kind) (m + 9000) ∧ BG B W w') := fun W hW => by
      have := fcount_at hW (by omega) (alN F) hn hus 1 (by omega) (by omega) (by omega) (by omega)
      rw [hlk] at this
      exact this
    have HA2 : Hid (AllD (bnF1 F kind)) := (HA.out.al kind).lk _ _
    have HAd : Hid (∀ W : World, Fs W B (bnF1 F kind) (m + 9000) → Calls Tryz.prog 122 #[sto B, .int .i64 d, tx s, .int .i64 (alN F : Int)] W fun e w' => e = .returned (.int .i64 (adR (bnF1 F kind) d s (alN F))) ∧ Fs w' B (bnF F d s kind) (m + 18000) ∧ BG B W w') := fun W hW => Add_at hW HA2.out (by omega) d s hs _
    have HFn : Hid ((bnF1 F kind).n = F.n) := by
      show (alF F kind).n = _
      unfold alF
      split <;> rfl
    clear e1 e2 hino hus hlk
    generalize bnR F d s kind = o at *
    generalize adR (bnF1 F kind) d s (alN F) = ar at *
    generalize alN F = an at *
    go_enter Tryz.func119, Tryz.ntmps119
    go_wp2_with fail
    rw [← HW0.out, ← Hr.out]
    refine hAl.mono ?_
    rintro e w1 ⟨rfl, hf, hbg⟩
    have h1 := hbg.other HR0.out (by decide)
    rw [← Hr.out] at h1
    have H1 : Hid (w1.heap[r]? = some (.cells #[.int .i64 d, tx s] 180)) := h1
    have HU1 : Hid (BG B w w1) := SU.trans (SU.of_below HB0.out) hbg
    have hC := HC.out w1 hf
    clear hAl hf hbg h1 HC
    go_wp2_with (go_at_call 102; refine (must_ok _).mono ?_; rintro e w2 ⟨rfl, hw⟩; rw [hw]; clear hw w2)
    refine hC.mono ?_
    rintro e w2 ⟨rfl, hf, hbg⟩
    have h2 := hbg.other H1.out (by decide)
    obtain ⟨c0, c1⟩ := spot_row h2
    have HU2 : Hid (BG B w w2) := SU.trans HU1.out hbg
    have hAd := HAd.out w2 hf
    clear hC hf hbg h2 HAd
    go_wp2_with fail
    refine hAd.mono ?_
    rintro e w3 ⟨rfl, hf, hbg⟩
    have HF : Hid (Fs w3 B (bnF F d s kind) (m + 18000) ∧ BG B w w3) := ⟨hf, SU.trans HU2.out hbg⟩
    have HFn3 : Hid (∃ ws, Dk w3 B F.n ws (m + 18000)) := by
      have := hf.dk
      rw [show (bnF F d s kind).n = F.n from (adF_n _ _ _ _).trans HFn.out] at this
      exact this
    clear hAd hf hbg c0 c1
    by_cases ha : ar = 0
    · subst ha
      have ho := HO.out
      rw [if_pos rfl] at ho
      subst ho
      go_wp2
      go_ret
      exact Or.inl ⟨rfl, rfl, HF.out⟩
    · have hne := ne_bool ha
      have ho := HO.out
      rw [if_neg ha] at ho
      subst ho
      go_wp2
      exact ⟨rfl, Or.inr ⟨rfl, rfl, HFn3.out, HF.out.2⟩⟩
  · have e2 : alR F = 28 := by unfold alR; rw [if_neg hn]
    have HO : Hid (bnR F d s kind = 28) := by show _ = _; unfold bnR; rw [if_neg (by rw [e2]; omega)]
    have e3 : alF F kind = F := by unfold alF; rw [if_neg hn]
    rw [e2, e3] at hAl
    clear e2 e3
    generalize bnR F d s kind = o at *
    generalize alI F = ai at *
    go_enter Tryz.func119, Tryz.ntmps119
    go_wp2_with fail
    rw [← HW0.out, ← Hr.out]
    refine hAl.mono ?_
    rintro e w1 ⟨rfl, hf, hbg⟩
    have HF : Hid (Fs w1 B F (m + 18000) ∧ BG B w w1) := ⟨hf.mono (by omega), SU.trans (SU.of_below HB0.out) hbg⟩
    have ho := HO.out
    subst ho
    clear hAl hf hbg HO
    go_wp2_with (go_at_call 102; refine (must_no 28 rfl _).mono ?_; rintro e w2 ⟨rfl, hw⟩; rw [hw]; clear hw w2)
    exact ⟨rfl, Or.inr ⟨rfl, rfl, HF.out.1.dk, HF.out.2⟩⟩
end
end Go.Proofs.YtcjpahnlckfgoaaGreatDoor
