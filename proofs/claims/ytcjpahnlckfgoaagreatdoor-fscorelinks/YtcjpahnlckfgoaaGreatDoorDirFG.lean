/- Plain: a file's text laid anew; a directory in a file system; an entry added, one taken away. Names no program. -/
/- Plain: what List, Find, Add, Remove, Walk and Parent answer and leave, as functions of a file system. Names no program. -/
import Derived.Test.YtcjpahnlckfgoaaGreatDoorDirA
import Derived.Test.YtcjpahnlckfgoaaGreatDoorLwAll
namespace Go.Proofs.YtcjpahnlckfgoaaGreatDoor
open Go.RowKit
set_option linter.unusedVariables false

/-- An inode's text is this now. -/
def layT (F : FS) (i : Nat) (t : List Int) : FS := F.put i ⟨(F.ino i).kind, (F.ino i).links, t, newBlk F i t.length⟩ (newBw F i t.length)
theorem resize_lay (F : FS) (i s : Nat) : resizeF F i s = layT F i (sized (F.ino i).txt s) := by
  unfold resizeF layT
  rw [sized_len]
theorem write_lay (F : FS) (i o : Nat) (d : List Int) : writeF F i o d = layT F i (patch (sized (F.ino i).txt (max (F.ino i).txt.length (o + d.length))) o d) := by
  obtain ⟨s, hs⟩ : ∃ s, s = max (F.ino i).txt.length (o + d.length) := ⟨_, rfl⟩
  have hl : (patch (sized (F.ino i).txt s) o d).length = s := by rw [patch_len (by rw [sized_len]; omega), sized_len]
  have e0 : (resizeF F i s).ino i = ⟨(F.ino i).kind, (F.ino i).links, sized (F.ino i).txt s, newBlk F i s⟩ := FS.put_same _ _ _ _
  unfold writeF layT
  rw [← hs, hl]
  show (resizeF F i s).put i ⟨((resizeF F i s).ino i).kind, ((resizeF F i s).ino i).links, patch ((resizeF F i s).ino i).txt o d, ((resizeF F i s).ino i).blk⟩ (newBw F i s) = _
  rw [e0]
  unfold FS.put resizeF FS.put
  congr 1
  funext j
  by_cases e : j = i
  · rw [if_pos e, if_pos e]
  · rw [if_neg e, if_neg e]
    exact if_neg e
theorem lay_txt (F : FS) (i : Nat) (t : List Int) : ((layT F i t).ino i).txt = t := by unfold layT; rw [FS.put_same]
theorem lay_kind (F : FS) (i : Nat) (t : List Int) : ((layT F i t).ino i).kind = (F.ino i).kind := by unfold layT; rw [FS.put_same]
theorem lay_other (F : FS) (i : Nat) (t : List Int) {j : Nat} (h : j ≠ i) : (layT F i t).ino j = F.ino j := FS.put_other _ _ _ _ h
theorem lay_iw (F : FS) (i : Nat) (t : List Int) : (layT F i t).iw = F.iw ∧ (layT F i t).n = F.n := ⟨rfl, rfl⟩
/-- A text that needs as many blocks as there are leaves them. -/
theorem newBlk_same {F : FS} {i s : Nat} (h : need s = (F.ino i).blk.length) : newBlk F i s = (F.ino i).blk ∧ newBw F i s = F.bw := by
  unfold newBlk newBw
  rw [h, Nat.sub_self, List.take_length, List.drop_length]
  exact ⟨List.append_nil _, rfl⟩
/-- Two texts one behind the other, where the first needs no other blocks. -/
theorem lay_lay {F : FS} {i : Nat} {t u : List Int} (h : need t.length = (F.ino i).blk.length) : layT (layT F i t) i u = layT F i u := by
  obtain ⟨e1, e2⟩ := newBlk_same (F := F) (i := i) (s := t.length) h
  have hi : (layT F i t).ino i = ⟨(F.ino i).kind, (F.ino i).links, t, (F.ino i).blk⟩ := by unfold layT; rw [FS.put_same, e1]
  have hb : (layT F i t).bw = F.bw := e2
  have hn : (layT F i t).n = F.n := rfl
  have a1 : newBlk (layT F i t) i u.length = newBlk F i u.length := by unfold newBlk; rw [hi, hb, hn]
  have a2 : newBw (layT F i t) i u.length = newBw F i u.length := by unfold newBw; rw [hi, hb, hn]
  show (layT F i t).put i _ _ = _
  rw [a1, a2, hi]
  unfold layT FS.put
  congr 1
  funext j
  by_cases e : j = i
  · rw [if_pos e, if_pos e]
  · rw [if_neg e, if_neg e]
    exact if_neg e
/-- What is laid behind a text. -/
theorem patch_end (t d : List Int) : patch (sized t (max t.length (t.length + d.length))) t.length d = t ++ d := by
  have e : max t.length (t.length + d.length) = t.length + d.length := by omega
  have e2 : sized t (t.length + d.length) = t ++ List.replicate d.length 0 := by
    unfold sized
    rw [List.take_of_length_le (by omega), Nat.add_sub_cancel_left]
  unfold patch
  rw [e, e2, List.take_left, List.drop_of_length_le (by simp)]
  simp
/-- A shorter text is laid over one, and the rest cut off. -/
theorem patch_over {t d : List Int} (h : d.length ≤ t.length) : sized (patch (sized t (max t.length (0 + d.length))) 0 d) d.length = d := by
  have e : max t.length (0 + d.length) = t.length := by omega
  have e2 : sized t t.length = t := by unfold sized; simp
  unfold patch
  rw [e, e2]
  unfold sized
  have hl : (List.take 0 t ++ d ++ List.drop (0 + d.length) t).length = t.length := by simp; omega
  rw [hl, List.take_zero, List.nil_append, List.take_left, show d.length - t.length = 0 by omega]
  simp
theorem write_end (F : FS) (i : Nat) (d : List Int) : writeF F i (F.ino i).txt.length d = layT F i ((F.ino i).txt ++ d) := by rw [write_lay, patch_end]
theorem write_over {F : FS} (hF : FInv F) {i : Nat} (hi : i < 32) {d : List Int} (h : d.length ≤ (F.ino i).txt.length) : resizeF (writeF F i 0 d) i d.length = layT F i d := by
  have hl : (patch (sized (F.ino i).txt (max (F.ino i).txt.length (0 + d.length))) 0 d).length = (F.ino i).txt.length := by
    rw [patch_len (by rw [sized_len]; omega), sized_len]
    omega
  rw [write_lay, resize_lay, lay_txt, patch_over h, lay_lay (by rw [hl, hF.len i hi])]
theorem room_less {F : FS} (hF : FInv F) {i s : Nat} (hi : i < 32) (h : s ≤ (F.ino i).txt.length) : roomB F i s = true := by
  have := hF.len i hi
  unfold roomB
  refine decide_eq_true ?_
  rw [this]
  unfold need
  omega
/-- A directory, with these entries. -/
structure DirAt (F : FS) (i : Nat) (l : List Ent) : Prop where
  kind : (F.ino i).kind = 2
  txt : (F.ino i).txt = nums (encsE l)
  ok : ∀ e ∈ l, EntOk e
  nd : (l.map Ent.name).Nodup
  most : l.length ≤ 21
theorem DirAt.len {F : FS} {i : Nat} {l : List Ent} (h : DirAt F i l) : (F.ino i).txt.length = 9 * l.length := by rw [h.txt, nums_len, encsE_len h.ok]
theorem DirAt.byts {F : FS} {i : Nat} {l : List Ent} (h : DirAt F i l) : byts (F.ino i).txt = encsE l := by rw [h.txt, byts_nums]
theorem DirAt.one {F : FS} {i : Nat} {l m : List Ent} (h : DirAt F i l) (h' : DirAt F i m) : encsE l = encsE m := by rw [← h.byts, ← h'.byts]
theorem nums_app (a b : List UInt8) : nums (a ++ b) = nums a ++ nums b := by simp [nums]
/-- An entry is added at the end. -/
theorem DirAt.add {F : FS} {i : Nat} {l : List Ent} (h : DirAt F i l) {e : Ent} (he : EntOk e) (hn : ∀ x ∈ l, x.name ≠ e.name) (hm : l.length < 21) : DirAt (layT F i ((F.ino i).txt ++ nums (encE e))) i (l ++ [e]) := by
  refine ⟨by rw [lay_kind]; exact h.kind, ?_, fun x hx => ?_, ?_, by simp; omega⟩
  · rw [lay_txt, h.txt, encsE_app, nums_app]
    simp [encsE]
  · rcases List.mem_append.1 hx with q | q
    · exact h.ok x q
    · rw [List.mem_singleton.1 q]; exact he
  · rw [List.map_append, List.nodup_append]
    refine ⟨h.nd, by simp, fun a ha b hb q => ?_⟩
    obtain ⟨x, hx, rfl⟩ := List.mem_map.1 ha
    simp at hb
    exact hn x hx (q.trans hb)
/-- One is taken away. -/
theorem DirAt.gone {F : FS} {i : Nat} {l : List Ent} (h : DirAt F i l) (k : Nat) (hk : k < l.length) : DirAt (layT F i (nums (encsE (l.take k ++ l.drop (k + 1))))) i (l.take k ++ l.drop (k + 1)) := by
  have hs : (l.take k ++ l.drop (k + 1)).Sublist l := by
    have a := List.Sublist.append (List.Sublist.refl (l.take k)) (List.drop_sublist_drop_left l (show k ≤ k + 1 by omega))
    rwa [List.take_append_drop] at a
  refine ⟨by rw [lay_kind]; exact h.kind, by rw [lay_txt], fun x hx => h.ok x (hs.subset hx), (hs.map Ent.name).nodup h.nd, Nat.le_trans hs.length_le h.most⟩
theorem DirAt.other {F : FS} {i j : Nat} {l : List Ent} (h : DirAt F j l) (t : List Int) (hne : j ≠ i) : DirAt (layT F i t) j l := by
  have e := lay_other F i t hne
  exact ⟨by rw [e]; exact h.kind, by rw [e]; exact h.txt, h.ok, h.nd, h.most⟩
end Go.Proofs.YtcjpahnlckfgoaaGreatDoor

namespace Go.Proofs.YtcjpahnlckfgoaaGreatDoor
open Go.RowKit
set_option linter.unusedVariables false

/-- The entries that a text holds: nine bytes each. -/
def decN : Nat → List UInt8 → List Ent
  | 0, _ => []
  | n + 1, t => if 9 ≤ t.length then ⟨(t.take 8).takeWhile (fun b => b != 0), (t.getD 8 0).toNat⟩ :: decN n (t.drop 9) else []
def decE (t : List UInt8) : List Ent := decN t.length t
theorem take_name {e : Ent} (h : EntOk e) : ((encE e).take 8).takeWhile (fun b => b != 0) = e.name := by
  have hm := h.max
  have e1 : (encE e).take 8 = e.name ++ List.replicate (8 - e.name.length) 0 := by
    unfold encE
    rw [List.take_append_of_le_length (by simp; omega), List.take_of_length_le (by simp; omega)]
  rw [e1, List.takeWhile_append_of_pos (fun b hb => by simpa using h.nz b hb)]
  cases hq : 8 - e.name.length with
  | zero => simp
  | succ k => simp [List.replicate_succ]
theorem take_to {e : Ent} (h : EntOk e) (r : List UInt8) : ((encE e ++ r).getD 8 0).toNat = e.to := by
  have h1 := encE_to h
  have h2 := encE_len h
  have h3 := h.to
  rw [List.getD_eq_getElem?_getD, List.getElem?_append_left (by omega), h1]
  simp
  omega
/-- How the reading goes on. -/
theorem decN_step (n : Nat) (t : List UInt8) (h : 9 ≤ t.length) : decN (n + 1) t = ⟨(t.take 8).takeWhile (fun b => b != 0), (t.getD 8 0).toNat⟩ :: decN n (t.drop 9) := if_pos h
theorem decN_end : ∀ (n : Nat) (t : List UInt8), t.length < 9 → decN n t = []
  | 0, _, _ => rfl
  | n + 1, t, h => if_neg (by omega)
theorem decN_encs : ∀ {l : List Ent} {n : Nat}, (∀ e ∈ l, EntOk e) → l.length ≤ n → decN n (encsE l) = l
  | [], 0, _, _ => rfl
  | [], n + 1, _, _ => by
    show (if 9 ≤ ([] : List UInt8).length then _ else _) = _
    rw [if_neg (by simp)]
  | e :: l, 0, _, h => by simp at h
  | e :: l, n + 1, h, hn => by
    have he := h e List.mem_cons_self
    have h9 := encE_len he
    have ih := decN_encs (l := l) (n := n) (fun x hx => h x (List.mem_cons_of_mem _ hx)) (by simpa using hn)
    have hen : encsE (e :: l) = encE e ++ encsE l := rfl
    rw [hen, decN_step n _ (by simp; omega), take_to he, List.take_append_of_le_length (by omega), take_name he, List.drop_append_of_le_length (by omega), List.drop_of_length_le (by omega), List.nil_append, ih]
theorem decE_encs {l : List Ent} (h : ∀ e ∈ l, EntOk e) : decE (encsE l) = l := decN_encs h (by rw [encsE_len h]; omega)
theorem decN_more : ∀ (n m : Nat) (t : List UInt8), t.length ≤ n → t.length ≤ m → decN n t = decN m t
  | 0, m, t, h, _ => by rw [decN_end 0 t (by omega), decN_end m t (by omega)]
  | n + 1, 0, t, _, h => by rw [decN_end 0 t (by omega), decN_end (n + 1) t (by omega)]
  | n + 1, m + 1, t, h1, h2 => by
    by_cases q : 9 ≤ t.length
    · rw [decN_step n t q, decN_step m t q, decN_more n m (t.drop 9) (by simp; omega) (by simp; omega)]
    · rw [decN_end (n + 1) t (by omega), decN_end (m + 1) t (by omega)]
theorem decE_step (t : List UInt8) (h : 9 ≤ t.length) : decE t = ⟨(t.take 8).takeWhile (fun b => b != 0), (t.getD 8 0).toNat⟩ :: decE (t.drop 9) := by
  unfold decE
  obtain ⟨n, hn⟩ : ∃ n, t.length = n + 1 := ⟨t.length - 1, by omega⟩
  rw [hn, decN_step n t h, decN_more n (t.drop 9).length (t.drop 9) (by simp; omega) (Nat.le_refl _)]
theorem decE_end (t : List UInt8) (h : t.length < 9) : decE t = [] := decN_end _ _ h
/-- Whether an inode is a directory's; its entries. -/
def isD (F : FS) (i : Int) : Bool := isI i && decide ((F.ino i.toNat).kind = 2)
def dirL (F : FS) (i : Int) : List Ent := if isD F i = true then decE (byts (F.ino i.toNat).txt) else []
theorem DirAt.list {F : FS} {i : Nat} {l : List Ent} (h : DirAt F i l) (hi : i < 32) : dirL F (i : Int) = l := by
  unfold dirL isD
  rw [isI_nat hi, Int.toNat_natCast, h.kind]
  simp only [decide_true, Bool.and_self, if_pos]
  rw [h.byts, decE_encs h.ok]
/-- What Find, Add and Remove answer, and leave. -/
def fdR (F : FS) (i : Int) (s : List UInt8) : Int := findE (dirL F i) s
def adB (F : FS) (i : Int) (s : List UInt8) (to : Int) : List UInt8 := s ++ List.replicate (8 - s.length) 0 ++ [UInt8.ofNat to.toNat]
def adR (F : FS) (i : Int) (s : List UInt8) (to : Int) : Int :=
  if isD F i = false then 20 else if (isName s && isI to) = false then 22 else if 0 ≤ fdR F i s then 17 else if 21 ≤ (dirL F i).length then 28 else if wrR F i.toNat (9 * (dirL F i).length : Nat) (adB F i s to) = 0 then 0 else 28
def adF (F : FS) (i : Int) (s : List UInt8) (to : Int) : FS := if adR F i s to = 0 then wrF F i.toNat (9 * (dirL F i).length : Nat) (adB F i s to) else F
def rmR (F : FS) (i : Int) (s : List UInt8) : Int := if isD F i = false then 20 else if placeE (dirL F i) s < (dirL F i).length then 0 else 2
def rmT (F : FS) (i : Int) (s : List UInt8) : List UInt8 := (byts (F.ino i.toNat).txt).take (9 * placeE (dirL F i) s) ++ (byts (F.ino i.toNat).txt).drop (9 * (placeE (dirL F i) s + 1))
def rmF (F : FS) (i : Int) (s : List UInt8) : FS := if rmR F i s = 0 then layT F i.toNat (nums (rmT F i s)) else F
/-- From an inode on, part by part. -/
def wkR (F : FS) : Int → List (List UInt8) → Int × Int
  | i, [] => (i, 0)
  | i, p :: l => if isD F i = false then (0, 20) else if fdR F i p < 0 then (0, 2) else wkR F (fdR F i p) l
def walkR (F : FS) (p : List UInt8) : Int × Int := if splitR p = 0 then wkR F 0 (splitP p) else (0, splitR p)
/-- Every directory is one. -/
def AllD (F : FS) : Prop := ∀ i, i < 32 → (F.ino i).kind = 2 → ∃ l, DirAt F i l
theorem AllD.lay {F : FS} (h : AllD F) {i : Nat} {t : List Int} {l : List Ent} (hl : DirAt (layT F i t) i l) : AllD (layT F i t) := fun j hj hk => by
  by_cases e : j = i
  · rw [e]; exact ⟨l, hl⟩
  · rw [lay_other F i t e] at hk
    obtain ⟨m, hm⟩ := h j hj hk
    exact ⟨m, hm.other t e⟩
theorem AllD.alloc {F : FS} (h : AllD F) (r : Nat) (kind : Int) : AllD (allocF F r kind) := fun j hj hk => by
  by_cases e : j = r
  · have e1 : (allocF F r kind).ino j = ⟨kind, 0, [], []⟩ := if_pos e
    rw [e1] at hk
    exact ⟨[], ⟨by rw [e1]; exact hk, by rw [e1]; rfl, (fun e he => by cases he), List.nodup_nil, by simp⟩⟩
  · have e1 : (allocF F r kind).ino j = F.ino j := if_neg e
    rw [e1] at hk
    obtain ⟨m, hm⟩ := h j hj hk
    exact ⟨m, ⟨by rw [e1]; exact hm.kind, by rw [e1]; exact hm.txt, hm.ok, hm.nd, hm.most⟩⟩
theorem isD_nat {F : FS} {i : Int} (h : isD F i = true) : ∃ k : Nat, i = (k : Int) ∧ k < 32 ∧ (F.ino k).kind = 2 := by
  unfold isD at h
  simp only [Bool.and_eq_true, decide_eq_true_eq] at h
  obtain ⟨k, rfl, hk⟩ := isI_of h.1
  exact ⟨k, rfl, hk, by simpa using h.2⟩
theorem find_lo {l : List Ent} {s : List UInt8} (h : ¬ 0 ≤ findE l s) : ∀ e ∈ l, e.name ≠ s := by
  refine place_none (fun q => h ?_)
  unfold findE
  rw [if_pos q]
  omega
theorem find_hi {l : List Ent} {s : List UInt8} (h : placeE l s < l.length) : 0 ≤ findE l s := by
  unfold findE
  rw [if_pos h]
  omega
/-- What Add leaves is a file system of directories. -/
theorem add_ok {F : FS} (hF : FInv F) (hA : AllD F) {i : Int} {s : List UInt8} {to : Int} (h : adR F i s to = 0) : ∃ (k t : Nat) (l : List Ent), i = (k : Int) ∧ k < 32 ∧ to = (t : Int) ∧ t < 32 ∧ DirAt F k l ∧ adF F i s to = layT F k ((F.ino k).txt ++ nums (encE ⟨s, t⟩)) ∧ DirAt (adF F i s to) k (l ++ [⟨s, t⟩]) ∧ roomB F k (9 * l.length + 9) = true := by
  have h' := h
  unfold adR at h'
  cases hd : isD F i with
  | false => rw [hd, if_pos rfl] at h'; omega
  | true =>
    rw [hd, if_neg (by simp)] at h'
    cases hn : (isName s && isI to) with
    | false => rw [hn, if_pos rfl] at h'; omega
    | true =>
      rw [hn, if_neg (by simp)] at h'
      simp only [Bool.and_eq_true] at hn
      by_cases hf : 0 ≤ fdR F i s
      · rw [if_pos hf] at h'; omega
      · rw [if_neg hf] at h'
        by_cases hm : 21 ≤ (dirL F i).length
        · rw [if_pos hm] at h'; omega
        · rw [if_neg hm] at h'
          obtain ⟨k, rfl, hk, hkk⟩ := isD_nat hd
          obtain ⟨t, rfl, ht⟩ := isI_of hn.2
          obtain ⟨l, hl⟩ := hA k hk hkk
          have he : EntOk ⟨s, t⟩ := ent_ok hn.1 ht
          have hlist := hl.list hk
          have hb : adB F (k : Int) s (t : Int) = encE ⟨s, t⟩ := by unfold adB encE; rw [Int.toNat_natCast]
          have h9 := encE_len he
          have hlen := hl.len
          unfold fdR at hf
          rw [hlist] at h' hm hf
          rw [Int.toNat_natCast, hb] at h'
          have hne : encE ⟨s, t⟩ ≠ [] := fun q => by rw [q] at h9; simp at h9
          have hmx : max (F.ino k).txt.length (9 * l.length + (encE ⟨s, t⟩).length) = 9 * l.length + 9 := by rw [hlen, h9]; omega
          have hroom : roomB F k (9 * l.length + 9) = true := by
            cases hq : roomB F k (9 * l.length + 9) with
            | true => rfl
            | false =>
              have e1 : wrR F k ((9 * l.length : Nat) : Int) (encE ⟨s, t⟩) = 28 := by
                unfold wrR
                rw [if_neg (by omega), if_neg (by rw [h9]; omega), if_neg hne, Int.toNat_natCast, hmx, hq]
                rfl
              rw [e1] at h'
              simp at h'
          have hw := wr_yes F k (9 * l.length) (encE ⟨s, t⟩) (by omega) hne (by rw [hmx]; exact hroom)
          have hA' : adF F (k : Int) s (t : Int) = layT F k ((F.ino k).txt ++ nums (encE ⟨s, t⟩)) := by
            unfold adF
            rw [if_pos h, hlist, Int.toNat_natCast, hb, hw.2, ← hlen, write_end]
          exact ⟨k, t, l, rfl, hk, rfl, ht, hl, hA', by rw [hA']; exact hl.add he (find_lo hf) (by omega), hroom⟩
/-- .. and what Remove leaves. -/
theorem rem_ok {F : FS} (hF : FInv F) (hA : AllD F) {i : Int} {s : List UInt8} (h : rmR F i s = 0) : ∃ (k : Nat) (l : List Ent), i = (k : Int) ∧ k < 32 ∧ DirAt F k l ∧ placeE l s < l.length ∧ rmT F i s = encsE (l.take (placeE l s) ++ l.drop (placeE l s + 1)) ∧ rmF F i s = layT F k (nums (rmT F i s)) ∧ DirAt (rmF F i s) k (l.take (placeE l s) ++ l.drop (placeE l s + 1)) := by
  have h' := h
  unfold rmR at h'
  cases hd : isD F i with
  | false => rw [hd, if_pos rfl] at h'; omega
  | true =>
    rw [hd, if_neg (by simp)] at h'
    obtain ⟨k, rfl, hk, hkk⟩ := isD_nat hd
    obtain ⟨l, hl⟩ := hA k hk hkk
    have hlist := hl.list hk
    rw [hlist] at h'
    by_cases hp : placeE l s < l.length
    · have ht : rmT F (k : Int) s = encsE (l.take (placeE l s) ++ l.drop (placeE l s + 1)) := by
        unfold rmT
        rw [hlist, Int.toNat_natCast, hl.byts, encsE_gone hl.ok _ hp]
      have hr : rmF F (k : Int) s = layT F k (nums (rmT F (k : Int) s)) := by
        unfold rmF
        rw [if_pos h, Int.toNat_natCast]
      exact ⟨k, l, rfl, hk, hl, hp, ht, hr, by rw [hr, ht]; exact hl.gone _ hp⟩
    · rw [if_neg hp] at h'; omega
end Go.Proofs.YtcjpahnlckfgoaaGreatDoor
