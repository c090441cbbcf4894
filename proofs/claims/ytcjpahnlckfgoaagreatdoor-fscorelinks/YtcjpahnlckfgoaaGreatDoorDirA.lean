/- Plain: a directory as a list of entries; its bytes; an entry added, found, taken away; a path's parts. Names no program. -/
/- Package dir: rows of entries and of texts in the heap; place, text, texts. -/
import Derived.Test.YtcjpahnlckfgoaaGreatDoorPlain
import Derived.Test.YtcjpahnlckfgoaaGreatDoorDsAB
import Derived.Lib.ConvBytes
import Derived.Deep.RegionWith
namespace Go.Proofs.YtcjpahnlckfgoaaGreatDoor
set_option linter.unusedVariables false

/-- An entry. -/
structure Ent where
  name : List UInt8
  to : Nat
/-- The error of a part: 0 where it is a name. -/
def partE (s : List UInt8) : Int := if 8 < s.length then 36 else if s.any (· == 0) = true then 22 else 0
/-- Whether a text is a name. -/
def isName (s : List UInt8) : Bool := !(s.any (· == 47)) && !s.isEmpty && decide (partE s = 0)
structure EntOk (e : Ent) : Prop where
  pos : 1 ≤ e.name.length
  max : e.name.length ≤ 8
  nz : ∀ b ∈ e.name, b ≠ 0
  ns : ∀ b ∈ e.name, b ≠ 47
  to : e.to < 32
theorem ent_ok {s : List UInt8} {k : Nat} (h : isName s = true) (hk : k < 32) : EntOk ⟨s, k⟩ := by
  unfold isName partE at h
  simp only [Bool.and_eq_true, Bool.not_eq_true', decide_eq_true_eq] at h
  obtain ⟨⟨h1, h2⟩, h3⟩ := h
  have h4 : s.length ≤ 8 := by
    rcases Nat.lt_or_ge 8 s.length with q | q
    · rw [if_pos q] at h3; omega
    · exact q
  rw [if_neg (by omega)] at h3
  have h5 : s.any (· == 0) = false := by
    cases hq : s.any (· == 0) with
    | false => rfl
    | true => rw [hq, if_pos rfl] at h3; omega
  refine ⟨?_, h4, fun b hb e => ?_, fun b hb e => ?_, hk⟩
  · cases s with
    | nil => simp at h2
    | cons a l => simp
  · have := List.any_eq_false.1 h5 b hb
    simp [e] at this
  · have := List.any_eq_false.1 h1 b hb
    simp [e] at this
/-- The nine bytes of an entry; all of them. -/
def encE (e : Ent) : List UInt8 := e.name ++ List.replicate (8 - e.name.length) 0 ++ [UInt8.ofNat e.to]
def encsE : List Ent → List UInt8
  | [] => []
  | e :: l => encE e ++ encsE l
theorem encE_len {e : Ent} (h : EntOk e) : (encE e).length = 9 := by
  have := h.max
  simp [encE]
  omega
theorem encsE_len : ∀ {l : List Ent}, (∀ e ∈ l, EntOk e) → (encsE l).length = 9 * l.length
  | [], _ => rfl
  | e :: l, h => by
    have h1 := encE_len (h e List.mem_cons_self)
    have h2 := encsE_len (l := l) (fun x hx => h x (List.mem_cons_of_mem _ hx))
    simp only [encsE, List.length_append, h1, h2, List.length_cons]
    omega
theorem encsE_app : ∀ (l m : List Ent), encsE (l ++ m) = encsE l ++ encsE m
  | [], m => rfl
  | e :: l, m => by simp only [List.cons_append, encsE, encsE_app l m, List.append_assoc]
theorem encsE_take {l : List Ent} (h : ∀ e ∈ l, EntOk e) (k : Nat) (hk : k ≤ l.length) : (encsE l).take (9 * k) = encsE (l.take k) := by
  have e : encsE l = encsE (l.take k) ++ encsE (l.drop k) := by rw [← encsE_app, List.take_append_drop]
  have hl : (encsE (l.take k)).length = 9 * k := by
    rw [encsE_len (fun x hx => h x (List.mem_of_mem_take hx)), List.length_take]
    omega
  rw [e, List.take_append_of_le_length (by omega), List.take_of_length_le (by omega)]
theorem encsE_drop {l : List Ent} (h : ∀ e ∈ l, EntOk e) (k : Nat) (hk : k ≤ l.length) : (encsE l).drop (9 * k) = encsE (l.drop k) := by
  have e : encsE l = encsE (l.take k) ++ encsE (l.drop k) := by rw [← encsE_app, List.take_append_drop]
  have hl : (encsE (l.take k)).length = 9 * k := by
    rw [encsE_len (fun x hx => h x (List.mem_of_mem_take hx)), List.length_take]
    omega
  rw [e, List.drop_append_of_le_length (by omega), List.drop_of_length_le (by omega), List.nil_append]
/-- One entry is gone. -/
theorem encsE_gone {l : List Ent} (h : ∀ e ∈ l, EntOk e) (k : Nat) (hk : k < l.length) : (encsE l).take (9 * k) ++ (encsE l).drop (9 * (k + 1)) = encsE (l.take k ++ l.drop (k + 1)) := by
  rw [encsE_take h k (by omega), encsE_drop h (k + 1) (by omega), encsE_app]
/-- The bytes of one entry. -/
theorem encE_name {e : Ent} (h : EntOk e) {j : Nat} (hj : j < e.name.length) : (encE e)[j]? = e.name[j]? := by
  unfold encE
  rw [List.append_assoc, List.getElem?_append_left hj]
theorem encE_zero {e : Ent} (h : EntOk e) {j : Nat} (h1 : e.name.length ≤ j) (h2 : j < 8) : (encE e)[j]? = some 0 := by
  unfold encE
  have := h.max
  rw [List.append_assoc, List.getElem?_append_right h1, List.getElem?_append_left (by simp; omega), List.getElem?_replicate, if_pos (by omega)]
theorem encE_to {e : Ent} (h : EntOk e) : (encE e)[8]? = some (UInt8.ofNat e.to) := by
  unfold encE
  have := h.max
  have hl : (e.name ++ List.replicate (8 - e.name.length) (0 : UInt8)).length = 8 := by simp; omega
  rw [List.getElem?_append_right (by omega), hl]
  rfl
theorem encsE_get {l : List Ent} (h : ∀ e ∈ l, EntOk e) {k j : Nat} (hk : k < l.length) (hj : j < 9) : (encsE l)[9 * k + j]? = (encE l[k])[j]? := by
  have e : (encsE l)[9 * k + j]? = ((encsE l).drop (9 * k))[j]? := by rw [List.getElem?_drop]
  have hd : l.drop k = l[k] :: l.drop (k + 1) := List.drop_eq_getElem_cons hk
  rw [e, encsE_drop h k (by omega), hd]
  show (encE l[k] ++ encsE (l.drop (k + 1)))[j]? = _
  rw [List.getElem?_append_left (by rw [encE_len (h _ (List.getElem_mem hk))]; exact hj)]
/-- Where a name is: its place; how many there are, where it is not. -/
def placeE (l : List Ent) (s : List UInt8) : Nat := l.findIdx (fun e => e.name == s)
/-- A name's inode. -/
def findE (l : List Ent) (s : List UInt8) : Int := if placeE l s < l.length then ((l.getD (placeE l s) ⟨[], 0⟩).to : Int) else -1
theorem place_hit {l : List Ent} {s : List UInt8} (h : placeE l s < l.length) : (l[placeE l s]).name = s ∧ ∀ j, (hj : j < placeE l s) → (l[j]'(by omega)).name ≠ s := by
  constructor
  · have q := List.findIdx_getElem (w := h)
    simp only [beq_iff_eq] at q
    exact q
  · intro j hj
    have := List.not_of_lt_findIdx (xs := l) (p := fun e => e.name == s) hj
    simpa using this
theorem place_none {l : List Ent} {s : List UInt8} (h : ¬ placeE l s < l.length) : ∀ e ∈ l, e.name ≠ s := by
  intro e he hq
  exact h (List.findIdx_lt_length.2 ⟨e, he, by simp [hq]⟩)
theorem place_le (l : List Ent) (s : List UInt8) : placeE l s ≤ l.length := List.findIdx_le_length
theorem find_add {l : List Ent} {s : List UInt8} {k : Nat} (h : findE l s = -1) : findE (l ++ [⟨s, k⟩]) s = (k : Int) := by
  have hn : ¬ placeE l s < l.length := by
    intro q
    unfold findE at h
    rw [if_pos q] at h
    omega
  have hp : placeE (l ++ [⟨s, k⟩]) s = l.length := by
    unfold placeE
    rw [List.findIdx_append]
    have e : l.findIdx (fun e => e.name == s) = l.length := by have := place_le l s; unfold placeE at this hn; omega
    rw [e]
    simp
  unfold findE
  rw [hp, if_pos (by simp)]
  simp
/-- A path's parts. -/
def partsP : List UInt8 → List UInt8 → List (List UInt8)
  | cur, [] => if cur.isEmpty then [] else [cur]
  | cur, b :: l => if b == 47 then (if cur.isEmpty then partsP [] l else cur :: partsP [] l) else partsP (cur ++ [b]) l
/-- The first error of the parts. -/
def firstE : List (List UInt8) → Int
  | [] => 0
  | p :: l => if partE p = 0 then firstE l else partE p
/-- What Split answers. -/
def splitR (p : List UInt8) : Int := if p = [] then 2 else if 32 < p.length then 36 else firstE (partsP [] p)
def splitP (p : List UInt8) : List (List UInt8) := if p = [] then [] else if 32 < p.length then [] else if firstE (partsP [] p) = 0 then partsP [] p else []
end Go.Proofs.YtcjpahnlckfgoaaGreatDoor

namespace Go.Proofs.YtcjpahnlckfgoaaGreatDoor
open Go.RowKit Go.Lib
set_option linter.unusedVariables false

theorem entInfo : (Tryz.prog.info? 219).map (fun i => (i.zero, i.size, i.bytes)) = some (some (.agg #[.string ⟨#[]⟩, .int .i64 0]), 2, 24) := by kernel_rfl
theorem txtInfo : (Tryz.prog.info? 9).map (fun i => (i.zero, i.size, i.bytes)) = some (some (.string ⟨#[]⟩), 1, 16) := by kernel_rfl
theorem tx_inj {a b : List UInt8} (h : tx a = tx b) : a = b := by
  have h1 : (ByteArray.mk a.toArray) = ByteArray.mk b.toArray := by injection h
  have := congrArg ByteArray.toList h1
  rwa [text_same, text_same] at this
theorem tx_yes (a : List UInt8) (W : World) : (binOp BinOp.eql 9 (tx a) (tx a)).run Tryz.prog W = .ok (.bool true) W := by
  have h := text_same a
  go_simp
theorem tx_no {a b : List UInt8} (hne : a ≠ b) (W : World) : (binOp BinOp.eql 9 (tx a) (tx b)).run Tryz.prog W = .ok (.bool false) W := by
  have h1 := text_same a
  have h2 := text_same b
  go_simp
theorem bytes_size' (l : List UInt8) : (ByteArray.mk l.toArray).size = l.length := by simp [ByteArray.size]
/-- The cells of entries. -/
def cellsE : List Ent → List Value
  | [] => []
  | e :: l => tx e.name :: .int .i64 (e.to : Int) :: cellsE l
theorem cellsE_len : ∀ (l : List Ent), (cellsE l).length = l.length * 2
  | [] => rfl
  | e :: l => by simp only [cellsE, List.length_cons, cellsE_len l]; omega
theorem cellsE_app : ∀ (l m : List Ent), cellsE (l ++ m) = cellsE l ++ cellsE m
  | [], m => rfl
  | e :: l, m => by simp only [List.cons_append, cellsE, cellsE_app l m]
theorem cellsE_get : ∀ {l : List Ent} {j : Nat} {e : Ent}, l[j]? = some e → (cellsE l)[2 * j]? = some (tx e.name) ∧ (cellsE l)[2 * j + 1]? = some (.int .i64 (e.to : Int))
  | [], j, e, h => by simp at h
  | x :: l, 0, e, h => by
    simp at h
    subst h
    exact ⟨rfl, rfl⟩
  | x :: l, j + 1, e, h => by
    have := cellsE_get (l := l) (j := j) (e := e) (by simpa using h)
    rw [show 2 * (j + 1) = 2 * j + 1 + 1 by omega]
    exact this
/-- A slice of entries that can be read, in a block from base on. -/
def Et (w : World) (base : Nat) (v : Value) (l : List Ent) : Prop :=
  ∃ a cap, v = .slice a l.length cap ∧ l.length ≤ cap ∧ (l ≠ [] → ∃ g o cur fz, a = some ⟨g, o, none⟩ ∧ base ≤ g ∧ w.heap[g]? = some (.cells cur 219 fz) ∧ ∀ j e, l[j]? = some e → cur[o + 2 * j]? = some (tx e.name) ∧ cur[o + 2 * j + 1]? = some (.int .i64 (e.to : Int)))
/-- A slice of entries that the call has made. -/
abbrev OwE (w : World) (base : Nat) (v : Value) (l : List Ent) : Prop := w.ownsRow base 219 2 v l.length (cellsE l)
section
variable {w w' : World} {base : Nat} {v : Value} {l : List Ent}
theorem Et.keep (h : Et w base v l) {P : Nat → Prop} (hu : UpdP P w w') (hp : ∀ k, P k → k < base) : Et w' base v l := by
  obtain ⟨a, cap, h1, h2, h3⟩ := h
  refine ⟨a, cap, h1, h2, fun hne => ?_⟩
  obtain ⟨g, o, cur, fz, e1, e2, e3, e4⟩ := h3 hne
  exact ⟨g, o, cur, fz, e1, e2, (hu.block g (lt_of_heap e3) (fun k => by have := hp g k; omega)).trans e3, e4⟩
theorem Et.below (h : Et w base v l) (hb : Below w.heap.size w w') : Et w' base v l := h.keep (P := fun _ => False) (UpdP.of_below hb) (fun _ k => k.elim)
theorem Et.st {lo : Nat} (h : Et w base v l) (hu : ST lo w w') : Et w' base v l := by
  obtain ⟨a, cap, h1, h2, h3⟩ := h
  refine ⟨a, cap, h1, h2, fun hne => ?_⟩
  obtain ⟨g, o, cur, fz, e1, e2, e3, e4⟩ := h3 hne
  exact ⟨g, o, cur, fz, e1, e2, hu.other e3 (by decide), e4⟩
theorem Et.mono {base' : Nat} (h : Et w base v l) (hb : base' ≤ base) : Et w base' v l := by
  obtain ⟨a, cap, h1, h2, h3⟩ := h
  refine ⟨a, cap, h1, h2, fun hne => ?_⟩
  obtain ⟨g, o, cur, fz, e1, e2, e3, e4⟩ := h3 hne
  exact ⟨g, o, cur, fz, e1, Nat.le_trans hb e2, e3, e4⟩
theorem OwE.et (h : OwE w base v l) : Et w base v l := by
  obtain ⟨h1, h2⟩ := h
  rcases h2 with ⟨rfl, hn⟩ | ⟨g, cap, cur, rfl, hb, hh, hc, hm, hs, ht⟩
  · exact ⟨none, 0, by rw [hn], by omega, fun hne => absurd (List.length_eq_zero_iff.1 hn) hne⟩
  · refine ⟨_, cap, rfl, hc, fun _ => ⟨g, 0, cur, _, rfl, hb, hh, fun j e he => ?_⟩⟩
    have hj := (List.getElem?_eq_some_iff.1 he).1
    obtain ⟨c0, c1⟩ := cellsE_get he
    rw [← ht] at c0 c1
    rw [List.getElem?_take_of_lt (by omega)] at c0 c1
    rw [Nat.zero_add]
    exact ⟨by simpa using c0, by simpa using c1⟩
theorem Et.form (h : Et w base v l) : ∃ a cap, v = .slice a l.length cap ∧ l.length ≤ cap := by
  obtain ⟨a, cap, h1, h2, h3⟩ := h
  exact ⟨a, cap, h1, h2⟩
/-- One of them. -/
theorem Et.at {a : Option Addr} {n cap : Nat} (h : Et w base (.slice a n cap) l) {j : Nat} {e : Ent} (he : l[j]? = some e) : ∃ g o, a = some ⟨g, o, none⟩ ∧ w.cell? ⟨g, o + j * 2, none⟩ = some (tx e.name) ∧ w.cell? ⟨g, o + j * 2 + 1, none⟩ = some (.int .i64 (e.to : Int)) := by
  obtain ⟨a', cap', h1, h2, h3⟩ := h
  cases h1
  obtain ⟨g, o, cur, fz, rfl, e2, e3, e4⟩ := h3 (fun z => by rw [z] at he; simp at he)
  obtain ⟨c0, c1⟩ := e4 j e he
  exact ⟨g, o, rfl, by rw [cell_of_heap e3, Nat.mul_comm]; exact c0, by rw [cell_of_heap e3, Nat.mul_comm]; exact c1⟩
end
/-- Where a name is: its place, or -1. -/
def plI (l : List Ent) (s : List UInt8) : Int := if placeE l s < l.length then (placeE l s : Int) else -1
theorem place_at_hit {l : List Ent} {s : List UInt8} {k : Nat} {e : Ent} (he : l[k]? = some e) (hq : e.name = s) (hlo : ∀ j x, j < k → l[j]? = some x → x.name ≠ s) : placeE l s = k := by
  have hk := (List.getElem?_eq_some_iff.1 he).1
  have hlt : placeE l s < l.length := List.findIdx_lt_length.2 ⟨e, List.mem_of_getElem? he, by simp [hq]⟩
  obtain ⟨p1, p2⟩ := place_hit hlt
  rcases Nat.lt_trichotomy (placeE l s) k with q | q | q
  · exact absurd p1 (hlo _ _ q (List.getElem?_eq_getElem hlt))
  · exact q
  · have := p2 k q
    rw [List.getElem?_eq_getElem hk] at he
    exact absurd (by rw [Option.some.inj he]; exact hq) this
set_option maxHeartbeats 1000000 in
theorem place_at {w : World} {base : Nat} {v : Value} {l : List Ent} (h : Et w base v l) (hl : l.length ≤ 1000) (s : List UInt8) :
    Calls Tryz.prog 168 #[v, tx s] w fun e w' => e = .returned (.int .i64 (plI l s)) ∧ Below w.heap.size w w' := by
  obtain ⟨a, cap, rfl, hcap⟩ := h.form
  have HE : Hid (Et w base (.slice a l.length cap) l) := h
  clear h hcap
  go_enter Tryz.func168, Tryz.ntmps168
  go_wp2
  go_loopw [5, 6, 9] (fun s5 s6 s9 wr => ∃ (k : Nat) (u5 u6 : Value), u5 = s5 ∧ u6 = s6 ∧ s9 = .int .i64 k ∧ k ≤ l.length ∧ Hid (∀ j x, j < k → l[j]? = some x → x.name ≠ s) ∧ Below w.heap.size w wr) (fun _ _ s9 _ => l.length - (RowKit.intOf s9).toNat)
  case atStart => exact ⟨0, _, _, rfl, rfl, rfl, by omega, fun j x hj => by omega, Below.refl _ _⟩
  case round =>
    obtain ⟨k, u5, u6, rfl, rfl, rfl, hk, HL, hb⟩ := hrel
    by_cases hlt : k < l.length
    · obtain ⟨e, he⟩ : ∃ e, l[k]? = some e := ⟨l[k], List.getElem?_eq_getElem hlt⟩
      have hEt := HE.out.below hb
      obtain ⟨g, o, rfl, c0, c1⟩ := hEt.at he
      have HK : Hid (l[k]? = some e) := he
      have hint : (k : Int) < (l.length : Int) := by omega
      by_cases hq : e.name = s
      · have heq := tx_yes s
        rw [hq] at c0
        have HR : Hid (plI l s = (k : Int)) := by
          have := place_at_hit HK.out hq HL.out
          show plI l s = _
          unfold plI
          rw [this, if_pos hlt]
        clear he hEt hq
        go_wp2
        go_ret
        exact ⟨by rw [HR.out]; rfl, hb.trans (((below_alloc _ _)).mono hb.size)⟩
      · have heq : (e.name == s) = false := by simpa using hq
        have HN : Hid (∀ j x, j < k + 1 → l[j]? = some x → x.name ≠ s) := fun j x hj hx => by
          rcases Nat.lt_or_ge j k with q | q
          · exact HL.out j x q hx
          · obtain rfl : j = k := by omega
            rw [HK.out] at hx
            rw [← Option.some.inj hx]
            exact hq
        clear he hEt hq
        go_wp2
        go_roundw
        case rel => exact ⟨k + 1, _, _, rfl, rfl, by go_num, by omega, HN, hb.trans (((below_alloc _ _)).mono hb.size)⟩
        case measure => simp [RowKit.intOf]; omega
    · have hnl : ¬ (k : Int) < (l.length : Int) := by omega
      have HR : Hid (plI l s = -1) := by
        show plI l s = _
        unfold plI
        rw [if_neg]
        intro q
        obtain ⟨p1, p2⟩ := place_hit q
        exact HL.out _ _ (by omega) (List.getElem?_eq_getElem q) p1
      go_wp2
      go_ret
      exact ⟨by rw [HR.out]; rfl, hb⟩
end Go.Proofs.YtcjpahnlckfgoaaGreatDoor
