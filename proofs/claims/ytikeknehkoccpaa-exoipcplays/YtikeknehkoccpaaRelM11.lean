/- The queues and the reference's list tell the same: plain data; both in the heap. -/
import Derived.Test.YtikeknehkoccpaaRmC11
namespace Go.Proofs.Ytikeknehkoccpaa
open Go.RowKit
set_option linter.unusedVariables false

/-- What is compared of a message. -/
abbrev mk (m : Mg) : Int × List Int := (m.fr, m.ws)
abbrev rk (m : RMg) : Int × List Int := (m.fr, m.ws)
def Rel (L : List RMg) (Q : QS) : Prop := (∀ n, (selM L n).map rk = (qat Q n).map mk) ∧ ∀ m ∈ L, isE m.fr = true ∧ isE m.tt = true ∧ m.ws.length ≤ 8
theorem Rel.zero : Rel [] Q0 := ⟨fun n => by unfold qat Q0; split <;> rfl, fun m hm => by simp at hm⟩
theorem Rel.froms {L : List RMg} {Q : QS} (h : Rel L Q) (n : Int) : rfroms L n = froms (qat Q n) := by
  have := congrArg (List.map Prod.fst) (h.1 n)
  simpa [rfroms, Go.Proofs.Ytikeknehkoccpaa.froms, Function.comp_def] using this
theorem froms_len (M : List Mg) : (froms M).length = M.length := by simp [froms]
theorem Rel.rlen {L : List RMg} {Q : QS} (h : Rel L Q) (n : Int) : (rfroms L n).length = (qat Q n).length := by rw [h.froms, froms_len]
theorem Rel.sendR {L : List RMg} {Q : QS} (h : Rel L Q) (f t : Int) (len : Nat) : rsendR L f t len = sendR Q f t len := by
  unfold rsendR Go.Proofs.Ytikeknehkoccpaa.sendR
  rw [h.rlen]
theorem Rel.send {L : List RMg} {Q : QS} (h : Rel L Q) (f t : Int) (a a' : Option Addr) (c c' : Nat) (ws : List Int) : Rel (rsendL L f t a c ws) (sendQ Q f t a' c' ws) := by
  unfold rsendL
  rw [h.sendR]
  by_cases hs : Go.Proofs.Ytikeknehkoccpaa.sendR Q f t ws.length = 0
  · rw [if_pos hs]
    obtain ⟨hf, ht, hl8, _⟩ := sendR_zero hs
    refine ⟨fun n => ?_, fun m hm => ?_⟩
    · rw [selM_snoc, qat_send hs]
      by_cases e : t = n
      · subst e
        rw [if_pos rfl, if_pos rfl, List.map_append, List.map_append, h.1]
        rfl
      · rw [if_neg e, if_neg (fun q => e q.symm)]
        exact h.1 n
    · rcases List.mem_append.1 hm with hm | hm
      · exact h.2 m hm
      · rw [List.mem_singleton] at hm
        subst hm
        exact ⟨hf, ht, hl8⟩
  · rw [if_neg hs, sendQ_no hs]
    exact h
theorem rsendL_len (L : List RMg) (f t : Int) (a : Option Addr) (c : Nat) (ws : List Int) : (rsendL L f t a c ws).length ≤ L.length + 1 := by
  unfold rsendL
  split
  · simp
  · omega
/-- The first to one, or none. -/
theorem first_or (n : Int) : ∀ (L : List RMg), (∀ m ∈ L, m.tt ≠ n) ∨ ∃ (k : Nat) (m : RMg), L[k]? = some m ∧ m.tt = n ∧ ∀ (j : Nat) (x : RMg), j < k → L[j]? = some x → x.tt ≠ n
  | [] => Or.inl (fun m hm => by simp at hm)
  | u :: L => by
    by_cases e : u.tt = n
    · exact Or.inr ⟨0, u, rfl, e, fun j x hj => by omega⟩
    · rcases first_or n L with h | ⟨k, m, h1, h2, h3⟩
      · left
        intro m hm
        rcases List.mem_cons.1 hm with rfl | hm
        · exact e
        · exact h m hm
      · refine Or.inr ⟨k + 1, m, by simpa using h1, h2, fun j x hj hx => ?_⟩
        cases j with
        | zero =>
          simp at hx
          subst hx
          exact e
        | succ j => exact h3 j x (by omega) (by simpa using hx)
theorem selM_none {L : List RMg} {n : Int} (h : ∀ m ∈ L, m.tt ≠ n) : selM L n = [] := by
  unfold selM
  rw [List.filter_eq_nil_iff]
  intro m hm
  simpa using h m hm
theorem Rel.none {L : List RMg} {Q : QS} (h : Rel L Q) {n : Int} (hn : ∀ m ∈ L, m.tt ≠ n) : qat Q n = [] ∧ Rel L (recvQ Q n) := by
  have hq : qat Q n = [] := by
    have := h.1 n
    rw [selM_none hn] at this
    exact List.map_eq_nil_iff.1 this.symm
  refine ⟨hq, fun k => ?_, h.2⟩
  rw [qat_recv]
  split
  · rename_i e
    subst e
    rw [h.1, hq]
    rfl
  · exact h.1 k
theorem Rel.some {L : List RMg} {Q : QS} (h : Rel L Q) {n : Int} {k : Nat} {m : RMg} (hm : L[k]? = some m) (ht : m.tt = n) (hno : ∀ (j : Nat) (x : RMg), j < k → L[j]? = some x → x.tt ≠ n) :
    (∃ q R, qat Q n = q :: R ∧ q.fr = m.fr ∧ q.ws = m.ws) ∧ Rel (L.take k ++ L.drop (k + 1)) (recvQ Q n) := by
  have hsplit : L = L.take k ++ (m :: L.drop (k + 1)) := by
    have e := List.getElem?_eq_some_iff.1 hm
    rw [← e.2]
    simp
  have h1 : selM (L.take k) n = [] := selM_none (fun x hx => by
    obtain ⟨j, hj⟩ := List.getElem?_of_mem hx
    rw [List.getElem?_take] at hj
    split at hj
    · exact hno j x (by assumption) hj
    · cases hj)
  have h2 : selM L n = m :: selM (L.drop (k + 1)) n := by
    conv => lhs; rw [hsplit]
    unfold selM at *
    rw [List.filter_append, h1, List.nil_append, List.filter_cons]
    simp [ht]
  have h3 := h.1 n
  rw [h2] at h3
  cases hq : qat Q n with
  | nil => rw [hq] at h3; simp at h3
  | cons q R =>
    rw [hq] at h3
    simp only [List.map_cons, List.cons.injEq, Prod.mk.injEq] at h3
    refine ⟨⟨q, R, rfl, h3.1.1.symm, h3.1.2.symm⟩, fun i => ?_, fun x hx => ?_⟩
    · rw [qat_recv]
      have e1 : selM (L.take k ++ L.drop (k + 1)) i = selM (L.take k) i ++ selM (L.drop (k + 1)) i := by unfold selM; exact List.filter_append ..
      rw [e1]
      by_cases e : i = n
      · subst e
        rw [if_pos rfl, h1, List.nil_append, hq]
        exact h3.2
      · rw [if_neg e, ← h.1 i]
        conv => rhs; rw [hsplit]
        congr 1
        unfold selM
        rw [List.filter_append, List.filter_cons]
        have : (m.tt == i) = false := by
          rw [ht]
          simpa using fun q => e q.symm
        rw [this]
        rfl
    · refine h.2 x ?_
      rcases List.mem_append.1 hx with hx | hx
      · exact List.mem_of_mem_take hx
      · exact List.mem_of_mem_drop hx
theorem Rel.gone {L : List RMg} {Q : QS} (h : Rel L Q) (n : Int) : Rel (rgoneL L n) (goneQ Q n) := by
  refine ⟨fun k => ?_, fun m hm => h.2 m (List.mem_filter.1 hm).1⟩
  rw [qat_gone]
  by_cases hn : isE n = true
  · rw [if_pos hn]
    by_cases e : k = n
    · subst e
      rw [if_pos rfl]
      have : selM (rgoneL L k) k = [] := selM_none (fun m hm => by
        have := (List.mem_filter.1 hm).2
        simp at this
        exact this.1)
      rw [this]
      rfl
    · rw [if_neg e]
      have e1 : selM (rgoneL L n) k = (selM L k).filter (fun m => m.fr != n) := by
        unfold selM rgoneL
        rw [List.filter_filter, List.filter_filter]
        apply List.filter_congr
        intro m _
        by_cases q : m.tt = k
        · have : (m.tt != n) = true := by rw [q]; simpa using e
          simp [this, Bool.and_comm]
        · have : (m.tt == k) = false := by simpa using q
          simp [this]
      rw [e1]
      unfold dropM
      have e2 : ∀ (l : List RMg), (l.filter (fun m => m.fr != n)).map rk = (l.map rk).filter (fun p => p.1 != n) := fun l => by rw [List.filter_map]; rfl
      have e3 : ∀ (l : List Mg), (l.filter (fun m => m.fr != n)).map mk = (l.map mk).filter (fun p => p.1 != n) := fun l => by rw [List.filter_map]; rfl
      rw [e2, e3, h.1]
  · rw [if_neg hn]
    have : rgoneL L n = L := by
      unfold rgoneL
      rw [List.filter_eq_self]
      intro m hm
      obtain ⟨h1, h2, _⟩ := h.2 m hm
      have a1 : m.tt ≠ n := by rintro rfl; exact hn h2
      have a2 : m.fr ≠ n := by rintro rfl; exact hn h1
      simp [a1, a2]
    rw [this]
    exact h.1 k

/-- Both, in the heap. -/
structure Duo (w : World) (b c : Nat) (v : Value) (L : List RMg) (Q : QS) : Prop where
  ipc : IpcAt w b b Q
  ref : RIs w c v L
  rel : Rel L Q
theorem Duo.below {w w' : World} {b c : Nat} {v : Value} {L : List RMg} {Q : QS} (h : Duo w b c v L Q) (hb : Below w.heap.size w w') : Duo w' b c v L Q := ⟨h.ipc.below hb, h.ref.below hb, h.rel⟩
theorem IpcAt.upd {w w' : World} {B b c : Nat} {Q : QS} {cs : Array Value} (h : IpcAt w B b Q) (hc : w.heap[c]? = some (.cells cs 28)) (hu : Upd c w w') : IpcAt w' B b Q :=
  h.kept (fun k cs' t fr hk ht => (hu.block k (lt_of_heap hk) (by
    rintro rfl
    rw [hc] at hk
    simp only [Option.some.injEq, Obj.cells.injEq] at hk
    obtain ⟨_, rfl, _⟩ := hk
    rcases ht with ht | ht | ht <;> exact absurd ht (by decide))).trans hk)
end Go.Proofs.Ytikeknehkoccpaa
