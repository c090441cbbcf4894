/- Two exokernels in one heap: a raw call of the one that moves no messages leaves the other. -/
import Derived.Test.YtbhpafgoofkkmaaGreatDoorXoT
namespace Go.Proofs.YtbhpafgoofkkmaaGreatDoor
open Go.RowKit
set_option linter.unusedVariables false

/-- What a kernel's calls write. -/
def Feet (L : XL) (k : Nat) : Prop := Ex.Foot L.Y k ∨ Xd.XFoot L.D k
theorem ExoAt.feet_lt {w : World} {K : Nat} {L : XL} {S : XS} (h : ExoAt w K L S) {k : Nat} (hk : Feet L k) : k < w.heap.size := by
  rcases hk with hk | hk
  · rcases foot_is h.mem hk with ⟨es, c, e⟩ | ⟨cs, t, e, _⟩
    · exact lt_of_heap e
    · exact lt_of_heap e
  · obtain ⟨cs, t, e, _⟩ := xfoot_is h.disk hk
    exact lt_of_heap e
theorem XTch.upd {L : XL} {w w' : World} (h : XTch L False w w') : UpdP (Feet L) w w' :=
  ⟨h.os, h.tape, h.output, h.size, fun k hk hn => h.block k hk (fun q => hn (Or.inl q)) (fun q => hn (Or.inr q)) (Or.inl id)⟩
theorem ExoAt.aside {w w' : World} {K K' : Nat} {L L' : XL} {S S' : XS} (h : ExoAt w K L S) (h' : ExoAt w K' L' S') (ht : XTch L False w w') (hd : ∀ k, Feet L k → ¬ Feet L' k) : ExoAt w' K' L' S' := by
  have hu := ht.upd
  obtain ⟨row, hr, _⟩ := h'.env.head
  have hno : ∀ {k : Nat} {cs : Array Value} {t : TypeId} {fr : Nat × Nat}, w.heap[k]? = some (.cells cs t fr) → t ∉ [236, 250, 242, 272, 294] → ¬ Feet L k := by
    intro k cs t fr e hn
    simp only [List.mem_cons, not_or, List.not_mem_nil, not_false_eq_true, and_true] at hn
    obtain ⟨t1, t2, t3, t4, t5⟩ := hn
    rintro (q | q)
    · exact not_foot h.mem e t1 t2 q
    · exact not_xfoot h.disk e t3 t4 t5 t2 q
  have hk : ∀ {k : Nat} {cs : Array Value} {t : TypeId} {fr : Nat × Nat}, w.heap[k]? = some (.cells cs t fr) → t ∉ [236, 250, 242, 272, 294] → w'.heap[k]? = some (.cells cs t fr) := fun e hn => (hu.block _ (lt_of_heap e) (hno e hn)).trans e
  refine ⟨hk h'.head (by decide), ker_keep h'.mem (fun k hkb => ?_), h'.env.keep ((hk hr (by decide)).trans hr.symm) ((hk h'.env.vec (by decide)).trans h'.env.vec.symm), h'.ipc.kept (fun k cs t fr e o => hk e (by rcases o with rfl | rfl | rfl <;> decide)),
    h'.disk.keepP hu (hno h'.disk.head (by decide)) (fun k hx hf => hd k hf (Or.inr hx)) (fun k hb cur fr e => hno e (by decide) hb), h'.ne, Nat.le_trans h'.lowB hu.size⟩
  rcases hkb with e | e | e | e | ⟨i, hi, e | e⟩
  · obtain ⟨row2, hr2, _⟩ := h'.mem.head
    rw [e]; exact (hk hr2 (by decide)).trans hr2.symm
  · rw [e]; exact (hk h'.mem.mem.head (by decide)).trans h'.mem.mem.head.symm
  · refine hu.block k ?_ (fun q => hd k q (Or.inl (Or.inl e)))
    rw [e]; exact lt_of_heap h'.mem.mem.row
  · obtain ⟨row2, hr2, _⟩ := h'.mem.caps.head
    refine hu.block k ?_ (fun q => hd k q (Or.inl (Or.inr (Or.inl e))))
    rw [e]; exact lt_of_heap hr2
  · rw [e]; exact (hk (h'.mem.tbl i hi).head (by decide)).trans (h'.mem.tbl i hi).head.symm
  · obtain ⟨es, c, hb, _⟩ := (h'.mem.tbl i hi).map
    refine hu.block k ?_ (fun q => hd k q (Or.inl (Or.inr (Or.inr ⟨i, hi, e⟩))))
    rw [e]; exact lt_of_heap hb
/-- The number of a call is its first word. -/
theorem req_c {ws : List Int} {r : Rqt} (h : reqOf ws = some r) : ∃ x rest, ws = x :: rest ∧ r.c = x.toNat := by
  cases ws with
  | nil => cases h
  | cons x rest =>
    refine ⟨x, rest, rfl, ?_⟩
    unfold reqOf at h
    split at h
    · cases h
    · rename_i y rest' heq
      injection heq with h1 h2
      subst h1
      subst h2
      split at h
      · split at h
        · cases h
        · split at h
          · injection h with h
            subst h
            rfl
          · cases h
      · cases h
theorem qat_none {Q : Ip.QS} (h : ∀ j, Q j = []) (e : Int) : Ip.qat Q e = [] := by
  unfold Ip.qat
  split
  · exact h _
  · rfl
/-- A call that is no Send moves no messages where none wait. -/
theorem talks_no {S : XS} {e : Int} {ws : List Int} (hQ : ∀ j, S.Q j = []) (hw : ∀ x rest, ws = x :: rest → x ≠ 11) : ¬ talks S e ws := by
  rintro ⟨r, hr, h | ⟨_, h⟩⟩
  · obtain ⟨x, rest, hx, hc⟩ := req_c hr
    exact hw x rest hx (by omega)
  · exact h (qat_none hQ e)
/-- Nor does it lay any. -/
theorem rawS_quiet {S : XS} {e : Int} {ws : List Int} (hQ : ∀ j, S.Q j = []) (hw : ∀ x rest, ws = x :: rest → x ≠ 11) (a' : Option Addr) (c' : Nat) : ∀ j, (rawS S e ws a' c').1.Q j = [] := by
  intro j
  unfold rawS
  split
  · cases hr : reqOf ws with
    | none => exact hQ j
    | some r =>
      obtain ⟨x, rest, hx, hc⟩ := req_c hr
      have hne : r.c ≠ 11 := fun q => hw x rest hx (by omega)
      show (rawO S e r a' c').1.Q j = []
      unfold rawO
      split <;> first
        | exact hQ j
        | (split <;> exact hQ j)
        | (rename_i h11; exact absurd h11 hne)
        | skip
      · rw [qat_none hQ e]
        exact hQ j
  · exact hQ j
end Go.Proofs.YtbhpafgoofkkmaaGreatDoor
