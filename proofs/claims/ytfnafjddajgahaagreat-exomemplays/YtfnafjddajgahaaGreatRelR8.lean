/- The code's slots and the reference's list behind Revoke, Gone; Has and Holders (no program). -/
import Derived.Test.YtfnafjddajgahaaGreatRelM8
namespace Go.Proofs.YtfnafjddajgahaaGreat
open Go.RowKit
namespace Ca
set_option linter.unusedVariables false

/-- What the reference's search finds: all that were made of root. -/
structure Bad (L : List Ce) (root : Int) (bad : List Int) : Prop where
  head : root ∈ bad
  nd : bad.Nodup
  cl : ∀ c ∈ L, c.ob ∈ bad → c.no ∈ bad
  sub : ∀ b ∈ bad, b = root ∨ ∃ c ∈ L, c.no = b ∧ c.ob ∈ bad
/-- What is left behind a Revoke. -/
def rrevL (L : List Ce) (root : Int) (bad : List Int) : List Ce := L.filter (fun c => c.no == root || !bad.contains c.no)

section
variable {T : Tab} {L : List Ce} {last : Int}
theorem Rel.revF (h : Rel T L last) {d : Ce} (hd : d ∈ L) : ∀ i, ∀ q ∈ (revS T (d.env, d.slot) i).2, ∃ c ∈ L, q = (c.env, c.slot) ∧ d.no ≤ c.no
  | 0 => by
    intro q hq
    simp only [revS, List.mem_singleton] at hq
    exact ⟨d, hd, hq, Int.le_refl _⟩
  | i + 1 => by
    have ih := h.revF hd i
    have hk := revK T (d.env, d.slot) (h.slot hd) i
    intro q hq
    cases hqi : (revS T (d.env, d.slot) i).2[i]? with
    | none =>
      have e : revS T (d.env, d.slot) (i + 1) = revS T (d.env, d.slot) i := by simp only [revS, hqi]
      rw [e] at hq
      exact ih q hq
    | some q0 =>
      have e : revS T (d.env, d.slot) (i + 1) = (clTo (revS T (d.env, d.slot) i).1 q0.1 q0.2 768, (revS T (d.env, d.slot) i).2 ++ madeTo (revS T (d.env, d.slot) i).1 q0.1 q0.2 768) := by simp only [revS, hqi]
      rw [e] at hq
      rcases List.mem_append.1 hq with hq | hq
      · exact ih q hq
      · have hq2 := hq
        simp only [madeTo, List.mem_map, List.mem_filter, List.mem_range] at hq2
        obtain ⟨j, ⟨hj, ho⟩, rfl⟩ := hq2
        have hq0 : q0 ∈ (revS T (d.env, d.slot) i).2 := List.mem_of_getElem? hqi
        obtain ⟨c, hc, e1, e2⟩ := ih q0 hq0
        have hT : (revS T (d.env, d.slot) i).1 j = T j := by
          rcases hk.tab j hj with e3 | ⟨e3, _⟩
          · exact e3
          · rw [e3, ofB_no q0 (hk.pos q0 hq0)] at ho
            cases ho
        rw [hT] at ho
        rcases h.full j hj with e3 | ⟨c', hc', e3⟩
        · rw [e3, ofB_no q0 (hk.pos q0 hq0)] at ho
          cases ho
        · subst e3
          have ho2 := ofB_iff.1 ho
          rw [e1] at ho2
          refine ⟨c', hc', h.pj hc', ?_⟩
          rcases h.par c' hc' with ⟨_, _, h3⟩ | ⟨p, hp, _, h2, h3, h4⟩
          · exact absurd (ho2.2.symm.trans h3) (h.slot hc)
          · have : p = c := h.jj hp hc (h3.symm.trans ho2.1) (h4.symm.trans ho2.2)
            rw [this] at h2
            omega
/-- The one that is revoked is made of none of those that were found. -/
theorem Rel.revRoot (h : Rel T L last) {d : Ce} (hd : d ∈ L) {q : Int × Int} (hq : ∃ c ∈ L, q = (c.env, c.slot) ∧ d.no ≤ c.no) : ofB (T d.j) q.1 q.2 = false := by
  cases ho : ofB (T d.j) q.1 q.2 with
  | false => rfl
  | true =>
    exfalso
    obtain ⟨c, hc, rfl, hle⟩ := hq
    have ho2 := ofB_iff.1 ho
    rcases h.par d hd with ⟨_, _, h3⟩ | ⟨p, hp, _, h2, h3, h4⟩
    · exact absurd (ho2.2.symm.trans h3) (h.slot hc)
    · have : p = c := h.jj hp hc (h3.symm.trans ho2.1) (h4.symm.trans ho2.2)
      rw [this] at h2
      omega
theorem madeTo_nodup (T : Tab) (pe ps : Int) (k : Nat) : (madeTo T pe ps k).Nodup := by
  unfold madeTo List.Nodup
  rw [List.pairwise_map]
  refine List.Pairwise.imp (R := fun a b => a ≠ b) (fun hne e => hne (plOf_inj e)) ?_
  exact List.Nodup.sublist List.filter_sublist List.nodup_range
theorem Rel.revNd (h : Rel T L last) {d : Ce} (hd : d ∈ L) : ∀ i, (revS T (d.env, d.slot) i).2.Nodup
  | 0 => by simp [revS]
  | i + 1 => by
    have ih := h.revNd hd i
    have hk := revK T (d.env, d.slot) (h.slot hd) i
    have hF := h.revF hd i
    cases hqi : (revS T (d.env, d.slot) i).2[i]? with
    | none =>
      have e : revS T (d.env, d.slot) (i + 1) = revS T (d.env, d.slot) i := by simp only [revS, hqi]
      rw [e]
      exact ih
    | some q0 =>
      have e : revS T (d.env, d.slot) (i + 1) = (clTo (revS T (d.env, d.slot) i).1 q0.1 q0.2 768, (revS T (d.env, d.slot) i).2 ++ madeTo (revS T (d.env, d.slot) i).1 q0.1 q0.2 768) := by simp only [revS, hqi]
      rw [e]
      show ((revS T (d.env, d.slot) i).2 ++ madeTo (revS T (d.env, d.slot) i).1 q0.1 q0.2 768).Nodup
      have hq0 : q0 ∈ (revS T (d.env, d.slot) i).2 := List.mem_of_getElem? hqi
      rw [List.nodup_append]
      refine ⟨ih, madeTo_nodup _ _ _ _, fun a ha b hb e2 => ?_⟩
      subst e2
      have hb2 := hb
      simp only [madeTo, List.mem_map, List.mem_filter, List.mem_range] at hb2
      obtain ⟨j, ⟨hj, ho⟩, rfl⟩ := hb2
      rcases hk.mem _ ha with e3 | ⟨j', hj', e3, e4, _⟩
      · have hjd : j = d.j := plOf_inj (e3.trans (h.pj hd).symm)
        subst hjd
        have hT : (revS T (d.env, d.slot) i).1 d.j = T d.j := by
          rcases hk.tab d.j hj with e5 | ⟨e5, _⟩
          · exact e5
          · rw [e5, ofB_no q0 (hk.pos q0 hq0)] at ho
            cases ho
        rw [hT, h.revRoot hd (hF q0 hq0)] at ho
        cases ho
      · rw [plOf_inj e3, e4, ofB_no q0 (hk.pos q0 hq0)] at ho
        cases ho

/-- Both searches find the same. -/
theorem Rel.revMem (h : Rel T L last) {d : Ce} (hd : d ∈ L) {T' : Tab} {F : List (Int × Int)} (hr : RevEnd T (d.env, d.slot) T' F) {bad : List Int} (hb : Bad L d.no bad) :
    ∀ (N : Nat) (c : Ce), c ∈ L → c.no < (N : Int) → (c.no ∈ bad ↔ (c.env, c.slot) ∈ F)
  | 0, c, hc, hN => by
    have := h.no c hc
    omega
  | N + 1, c, hc, hN => by
    have ih := h.revMem hd hr hb N
    constructor
    · intro hm
      rcases hb.sub _ hm with e | ⟨c', hc', e, hob⟩
      · have : c = d := h.nn hc hd e
        rw [this]
        exact hr.root
      · have : c' = c := h.nn hc' hc e
        subst this
        rcases h.par c' hc with ⟨h1, _, _⟩ | ⟨p, hp, h1, h2, h3, h4⟩
        · rw [h1] at hob
          exfalso
          rcases hb.sub _ hob with e0 | ⟨c0, hc0, e0, _⟩
          · have := (h.no d hd).1
            omega
          · have := (h.no c0 hc0).1
            omega
        · rw [h1] at hob
          have hpF := (ih p hp (by omega)).1 hob
          have hdone := hr.done _ hpF c'.j (h.lt hc)
          rcases hr.tab c'.j (h.lt hc) with e1 | ⟨_, e2, _⟩
          · rw [e1, ofB_iff.2 ⟨h3, h4⟩] at hdone
            cases hdone
          · rw [h.pj hc] at e2
            exact e2
    · intro hF
      rcases hr.mem _ hF with e | ⟨j, hj, e, e1, e2⟩
      · simp only [Prod.mk.injEq] at e
        have : c = d := h.jj hc hd e.1 e.2
        rw [this]
        exact hb.head
      · have hjc : j = c.j := plOf_inj (e.symm.trans (h.pj hc).symm)
        subst hjc
        rcases hr.tab c.j hj with e3 | ⟨_, _, _, q, hq, ho⟩
        · rw [← e3, e1] at e2
          exact absurd rfl e2
        · have ho2 := ofB_iff.1 ho
          rcases h.par c hc with ⟨_, _, h3⟩ | ⟨p, hp, h1, h2, h3, h4⟩
          · exact absurd h3 e2
          · have hq2 : q = (p.env, p.slot) := Prod.ext (ho2.1.symm.trans h3) (ho2.2.symm.trans h4)
            rw [hq2] at hq
            exact hb.cl c hc (by rw [h1]; exact (ih p hp (by omega)).2 hq)
theorem Rel.rev (h : Rel T L last) {d : Ce} (hd : d ∈ L) (N : Nat) (hN : (revS T (d.env, d.slot) (N + 1)).2.length = N + 1) {bad : List Int} (hb : Bad L d.no bad) :
    bad.length = N + 1 ∧ Rel (revS T (d.env, d.slot) (N + 1)).1 (rrevL L d.no bad) last := by
  have hr := revEnd T (d.env, d.slot) (h.slot hd) (N + 1) hN
  have hF := h.revF hd (N + 1)
  have hnd := h.revNd hd (N + 1)
  generalize (revS T (d.env, d.slot) (N + 1)).1 = T' at *
  generalize (revS T (d.env, d.slot) (N + 1)).2 = F at *
  have same : ∀ c ∈ L, (c.no ∈ bad ↔ (c.env, c.slot) ∈ F) := fun c hc => h.revMem hd hr hb (c.no.toNat + 1) c hc (by have := (h.no c hc).1; omega)
  constructor
  · rw [← hN]
    have p1 : ((L.filter (fun c => bad.contains c.no)).map Ce.no).Perm bad := by
      rw [List.perm_ext_iff_of_nodup (h.nos.sublist (List.filter_sublist.map _)) hb.nd]
      intro a
      simp only [List.mem_map, List.mem_filter, List.contains_iff_mem]
      constructor
      · rintro ⟨c, ⟨_, hc⟩, rfl⟩
        exact hc
      · intro ha
        rcases hb.sub a ha with e | ⟨c, hc, e, _⟩
        · exact ⟨d, ⟨hd, by rw [← e]; exact ha⟩, e.symm⟩
        · exact ⟨c, ⟨hc, by rw [e]; exact ha⟩, e⟩
    have p2 : ((L.filter (fun c => bad.contains c.no)).map (fun c => (c.env, c.slot))).Perm F := by
      have hnd2 : (L.map (fun c => (c.env, c.slot))).Nodup := by
        unfold List.Nodup
        rw [List.pairwise_map]
        have := h.pls
        unfold List.Nodup at this
        rw [List.pairwise_map] at this
        refine this.imp ?_
        intro a b hne e
        simp only [Prod.mk.injEq] at e
        exact hne (by show dropJ _ _ = dropJ _ _; rw [e.1, e.2])
      rw [List.perm_ext_iff_of_nodup (hnd2.sublist (List.filter_sublist.map _)) hnd]
      intro a
      simp only [List.mem_map, List.mem_filter, List.contains_iff_mem]
      constructor
      · rintro ⟨c, ⟨hc, hm⟩, rfl⟩
        exact (same c hc).1 hm
      · intro ha
        obtain ⟨c, hc, rfl, _⟩ := hF a ha
        exact ⟨c, ⟨hc, (same c hc).2 ha⟩, rfl⟩
    have l1 := p1.length_eq
    have l2 := p2.length_eq
    simp only [List.length_map] at l1 l2
    omega
  · have mem : ∀ c, c ∈ rrevL L d.no bad ↔ c ∈ L ∧ (c = d ∨ c.no ∉ bad) := by
      intro c
      unfold rrevL
      rw [List.mem_filter]
      constructor
      · rintro ⟨hc, hp⟩
        simp only [Bool.or_eq_true, beq_iff_eq, Bool.not_eq_true', ← Bool.not_eq_true, List.contains_iff_mem] at hp
        rcases hp with hp | hp
        · exact ⟨hc, Or.inl (h.nn hc hd hp)⟩
        · exact ⟨hc, Or.inr hp⟩
      · rintro ⟨hc, hp⟩
        refine ⟨hc, ?_⟩
        simp only [Bool.or_eq_true, beq_iff_eq, Bool.not_eq_true', ← Bool.not_eq_true, List.contains_iff_mem]
        rcases hp with rfl | hp
        · exact Or.inl rfl
        · exact Or.inr hp
    have keep : ∀ c ∈ rrevL L d.no bad, T' c.j = T c.j := by
      intro c hc
      obtain ⟨hcL, hc2⟩ := (mem c).1 hc
      rcases hr.tab c.j (h.lt hcL) with e | ⟨_, e2, _, q, hq, ho⟩
      · exact e
      · exfalso
        rcases hc2 with rfl | hn
        · rw [h.revRoot hd (hF q hq)] at ho
          cases ho
        · rw [h.pj hcL] at e2
          exact hn ((same c hcL).2 e2)
    have hsl : (rrevL L d.no bad).Sublist L := List.filter_sublist
    refine ⟨fun c hc => h.may c ((mem c).1 hc).1, fun c hc => h.pl c ((mem c).1 hc).1, fun c hc => by rw [keep c hc]; exact h.tab c ((mem c).1 hc).1, fun c hc => h.no c ((mem c).1 hc).1, h.nos.sublist (hsl.map _), h.pls.sublist (hsl.map _), fun j hj => ?_, fun c hc => ?_⟩
    · rcases h.full j hj with e0 | ⟨c, hc, rfl⟩
      · left
        rcases hr.tab j hj with e | ⟨e, _⟩
        · rw [e, e0]
        · exact e
      · by_cases hc2 : c = d ∨ c.no ∉ bad
        · exact Or.inr ⟨c, (mem c).2 ⟨hc, hc2⟩, rfl⟩
        · left
          have hcb : c.no ∈ bad := by
            apply Classical.byContradiction
            intro hn
            exact hc2 (Or.inr hn)
          rcases hr.mem _ ((same c hc).1 hcb) with e | ⟨j', hj', e, e1, _⟩
          · simp only [Prod.mk.injEq] at e
            exact absurd (Or.inl (h.jj hc hd e.1 e.2)) hc2
          · have : j' = c.j := plOf_inj (e.symm.trans (h.pj hc).symm)
            rw [← this]
            exact e1
    · rw [keep c hc]
      obtain ⟨hcL, hc2⟩ := (mem c).1 hc
      rcases h.par c hcL with h1 | ⟨p, hp, h1, h2, h3, h4⟩
      · exact Or.inl h1
      · right
        refine ⟨p, (mem p).2 ⟨hp, ?_⟩, h1, h2, h3, h4⟩
        by_cases hpb : p.no ∈ bad
        · left
          rcases hc2 with rfl | hn
          · exfalso
            obtain ⟨p', hp', e, hle⟩ := hF _ ((same p hp).1 hpb)
            simp only [Prod.mk.injEq] at e
            have : p = p' := h.jj hp hp' e.1 e.2
            rw [this] at h2
            omega
          · exact absurd (hb.cl c hcL (by rw [h1]; exact hpb)) hn
        · exact Or.inr hpb

/-- What the reference has behind a Drop of any slot. -/
def rdropL (L : List Ce) (n s : Int) : List Ce := match L[rfind L n s]? with
  | none => L
  | some d => (L.take (rfind L n s) ++ L.drop (rfind L n s + 1)).map (rdropG d)
def rdropA (L : List Ce) (n s : Int) : Bool := match L[rfind L n s]? with
  | none => false
  | some d => !((L.take (rfind L n s) ++ L.drop (rfind L n s + 1)).any fun c => meetsB c.x d.x)
theorem rdrop_none {L : List Ce} {n s : Int} (h : rfindI L n s = -1) : rdropL L n s = L ∧ rdropA L n s = false := by
  have : L[rfind L n s]? = none := by
    rw [List.getElem?_eq_none]
    unfold rfindI at h
    split at h
    · omega
    · omega
  unfold rdropL rdropA
  rw [this]
  exact ⟨rfl, rfl⟩
theorem rdrop_some {L : List Ce} {n s : Int} {k : Nat} {d : Ce} (h : rfindI L n s = (k : Int)) (hd : L[k]? = some d) : rdropL L n s = (L.take k ++ L.drop (k + 1)).map (rdropG d) ∧ rdropA L n s = !((L.take k ++ L.drop (k + 1)).any fun c => meetsB c.x d.x) := by
  have hk : rfind L n s = k := by
    unfold rfindI at h
    split at h
    · omega
    · omega
  unfold rdropL rdropA
  rw [hk, hd]
  exact ⟨rfl, rfl⟩
theorem rdropL_len (L : List Ce) (n s : Int) : (rdropL L n s).length ≤ L.length := by
  unfold rdropL
  split
  · exact Nat.le_refl _
  · rw [List.length_map, List.length_append, List.length_take, List.length_drop]
    omega
theorem Rel.dropAny (h : Rel T L last) (n s : Int) : Rel (dropT T n s) (rdropL L n s) last ∧ dropB T n s = rdropA L n s ∧ dropR T n s = if rfindI L n s < 0 then 104 else 0 := by
  rcases h.find n s with ⟨e, hi⟩ | ⟨k, d, e, hd, rfl, rfl, hg, hi⟩
  · obtain ⟨e1, e2⟩ := rdrop_none e
    rw [e1, e2]
    unfold dropT dropB dropR
    have hi2 : ¬ (getT T n s).is = true := by rw [hi]; simp
    have hlt : rfindI L n s < 0 := by omega
    rw [if_neg hi2, if_neg hi2, hi, if_pos hlt]
    exact ⟨h, rfl, rfl⟩
  · obtain ⟨e1, e2⟩ := rdrop_some e hd
    rw [e1, e2, if_neg (by omega)]
    have h2 := h
    rw [split_at hd] at h2
    exact h2.drop
/-- What the reference has behind a Drop of the first k slots. -/
def rgoneL (L : List Ce) (n : Int) : Nat → List Ce
  | 0 => L
  | k + 1 => rdropL (rgoneL L n k) n (k + 1 : Nat)
theorem rgoneL_len (L : List Ce) (n : Int) : ∀ k, (rgoneL L n k).length ≤ L.length
  | 0 => Nat.le_refl _
  | k + 1 => Nat.le_trans (rdropL_len _ _ _) (rgoneL_len L n k)
theorem Rel.gone (h : Rel T L last) (n : Int) : ∀ k, Rel (goneT T n k) (rgoneL L n k) last
  | 0 => h
  | k + 1 => ((h.gone n k).dropAny n (k + 1 : Nat)).1

theorem hit_no (K I r : Int) : hitB Cp.no K I r = false := by
  simp only [hitB, coversB, Bool.and_eq_false_iff, decide_eq_false_iff_not]
  left
  by_cases h : (0 : Int) ≤ I
  · right; omega
  · left; right; exact h
theorem Rel.has (h : Rel T L last) (n K I r : Int) : hasB T n K I r = rhas L n K I r := by
  cases hb : rhas L n K I r with
  | true =>
    unfold rhas at hb
    obtain ⟨d, hd, hh⟩ := List.any_eq_true.1 hb
    simp only [Bool.and_eq_true, beq_iff_eq] at hh
    obtain ⟨rfl, hh⟩ := hh
    have hp := h.pl d hd
    obtain ⟨a, c, ea, ec, ha, hc⟩ := isP_nat hp
    have hE : isE d.env = true := by
      unfold isP at hp
      simp only [Bool.and_eq_true] at hp
      exact hp.1.1
    unfold hasB
    rw [hE, Bool.true_and]
    refine hasN_hit (s := c) hc ?_
    have e : d.env.toNat * 64 + c = d.j := by
      show _ = dropJ d.env d.slot
      rw [ea, ec]
      simp [dropJ]
    rw [e, h.tab d hd]
    exact hh
  | false =>
    unfold rhas at hb
    unfold hasB
    cases hE : isE n with
    | false => rfl
    | true =>
      rw [Bool.true_and]
      refine hasN_miss (fun s hs => ?_)
      have hn := hE
      simp [isE] at hn
      rcases h.full (n.toNat * 64 + s) (by omega) with e0 | ⟨d, hd, ed⟩
      · rw [e0]
        exact hit_no K I r
      · have hp := h.pj hd
        rw [ed, plOf_at hs] at hp
        simp only [Prod.mk.injEq] at hp
        rw [← ed, h.tab d hd]
        have := List.any_eq_false.1 hb d hd
        have hen : (d.env == n) = true := by simp; omega
        rw [hen] at this
        simpa using this
end

/-- A number where it belongs, once. -/
def insI (n : Int) : List Int → List Int
  | [] => [n]
  | a :: l => if a < n then a :: insI n l else if a = n then a :: l else n :: a :: l
def holdL (K I : Int) (L : List Ce) : List Int := L.foldl (fun l c => if hitB c.x K I 0 = true then insI c.env l else l) []
def Up (l : List Int) : Prop := l.Pairwise (· < ·)
theorem insI_mem (n : Int) : ∀ (l : List Int) (a : Int), a ∈ insI n l ↔ a = n ∨ a ∈ l
  | [], a => by simp [insI]
  | b :: l, a => by
    unfold insI
    split
    · rw [List.mem_cons, insI_mem n l a, List.mem_cons]
      grind
    · split
      · rename_i e
        subst e
        simp
      · simp
theorem insI_up (n : Int) : ∀ (l : List Int), Up l → Up (insI n l)
  | [], _ => by simp [insI, Up]
  | b :: l, h => by
    unfold Up at h
    rw [List.pairwise_cons] at h
    unfold insI
    split
    · rename_i hb
      unfold Up
      rw [List.pairwise_cons]
      refine ⟨fun a ha => ?_, insI_up n l h.2⟩
      rcases (insI_mem n l a).1 ha with rfl | ha
      · exact hb
      · exact h.1 a ha
    · split
      · unfold Up
        rw [List.pairwise_cons]
        exact h
      · unfold Up
        rw [List.pairwise_cons, List.pairwise_cons]
        refine ⟨fun a ha => ?_, h⟩
        rcases List.mem_cons.1 ha with rfl | ha
        · omega
        · have := h.1 a ha
          omega
theorem insI_len (n : Int) : ∀ (l : List Int), (insI n l).length ≤ l.length + 1
  | [] => by simp [insI]
  | b :: l => by
    unfold insI
    have := insI_len n l
    split
    · simp; omega
    · split
      · simp
      · simp
theorem hold_fold (K I : Int) : ∀ (L : List Ce) (l : List Int), Up l → Up (L.foldl (fun l c => if hitB c.x K I 0 = true then insI c.env l else l) l) ∧ (∀ a, a ∈ L.foldl (fun l c => if hitB c.x K I 0 = true then insI c.env l else l) l ↔ a ∈ l ∨ ∃ c ∈ L, c.env = a ∧ hitB c.x K I 0 = true)
  | [], l, h => ⟨h, fun a => by simp⟩
  | c :: L, l, h => by
    rw [List.foldl_cons]
    by_cases hc : hitB c.x K I 0 = true
    · rw [if_pos hc]
      obtain ⟨h1, h2⟩ := hold_fold K I L _ (insI_up c.env l h)
      refine ⟨h1, fun a => ?_⟩
      rw [h2 a, insI_mem]
      grind
    · rw [if_neg hc]
      obtain ⟨h1, h2⟩ := hold_fold K I L l h
      refine ⟨h1, fun a => ?_⟩
      rw [h2 a]
      grind
theorem up_eq {l m : List Int} (h1 : Up l) (h2 : Up m) (h : ∀ a, a ∈ l ↔ a ∈ m) : l = m := by
  have n1 : l.Nodup := h1.imp (fun hab => by omega)
  have n2 : m.Nodup := h2.imp (fun hab => by omega)
  have hp := (List.perm_ext_iff_of_nodup n1 n2).2 h
  exact hp.eq_of_pairwise (fun a b _ _ h1 h2 => by omega) h1 h2
theorem holdTo_up (T : Tab) (K I : Int) (k : Nat) : Up (holdTo T K I k) := by
  unfold holdTo Up
  rw [List.pairwise_map]
  refine List.Pairwise.imp (R := fun a b => a < b) (fun hab => by simpa using hab) ?_
  exact List.Pairwise.sublist List.filter_sublist List.pairwise_lt_range
theorem Rel.hold {T : Tab} {L : List Ce} {last : Int} (h : Rel T L last) (K I : Int) : holdTo T K I 12 = holdL K I L := by
  obtain ⟨h1, h2⟩ := hold_fold K I L [] (by simp [Up])
  refine up_eq (holdTo_up T K I 12) h1 (fun a => ?_)
  rw [show (a ∈ holdL K I L ↔ _) from h2 a]
  unfold holdTo
  rw [List.mem_map]
  have hh := fun n => h.has n K I 0
  unfold hasB rhas at hh
  constructor
  · rintro ⟨m, hm, rfl⟩
    rw [List.mem_filter, List.mem_range] at hm
    right
    have e := hh (Int.ofNat m)
    have hE : isE (Int.ofNat m) = true := by simp [isE]; omega
    rw [hE, Bool.true_and, show (Int.ofNat m).toNat = m from rfl, hm.2] at e
    obtain ⟨c, hc, hc2⟩ := List.any_eq_true.1 e.symm
    simp only [Bool.and_eq_true, beq_iff_eq] at hc2
    exact ⟨c, hc, hc2.1, hc2.2⟩
  · rintro (hf | ⟨c, hc, rfl, hc2⟩)
    · simp at hf
    · have e := hh c.env
      rw [List.any_eq_true.2 ⟨c, hc, by simp [hc2]⟩, Bool.and_eq_true] at e
      have hE := e.1
      simp [isE] at hE
      refine ⟨c.env.toNat, List.mem_filter.2 ⟨List.mem_range.2 (by omega), e.2⟩, ?_⟩
      show ((c.env.toNat : Nat) : Int) = c.env
      omega
end Ca
end Go.Proofs.YtfnafjddajgahaaGreat
