/- The code's slots and the reference's list, held against one another (no program). -/
import Derived.Test.YtfnafjddajgahaaGreatInvM8
import Derived.Test.YtfnafjddajgahaaGreatRefD8
namespace Go.Proofs.YtfnafjddajgahaaGreat
open Go.RowKit
namespace Ca
set_option linter.unusedVariables false

abbrev Ce.j (d : Ce) : Nat := dropJ d.env d.slot
theorem isP_j {n s : Int} (h : isP n s = true) : dropJ n s < 768 ∧ plOf (dropJ n s) = (n, s) := by
  obtain ⟨a, c, rfl, rfl, ha, hc⟩ := isP_nat h
  have e : dropJ a (c + 1 : Nat) = a * 64 + c := by simp [dropJ]
  rw [e]
  exact ⟨by omega, plOf_at hc⟩
theorem nd_uniq {β : Type} {f : Ce → β} : ∀ {L : List Ce} {a b : Ce}, (L.map f).Nodup → a ∈ L → b ∈ L → f a = f b → a = b
  | [], a, b, _, ha, _, _ => by simp at ha
  | c :: L, a, b, h, ha, hb, e => by
    rw [List.map_cons, List.nodup_cons] at h
    rcases List.mem_cons.1 ha with rfl | ha' <;> rcases List.mem_cons.1 hb with rfl | hb'
    · rfl
    · exact absurd (by rw [e]; exact List.mem_map_of_mem hb') h.1
    · exact absurd (by rw [← e]; exact List.mem_map_of_mem ha') h.1
    · exact nd_uniq h.2 ha' hb' e

/-- The slots T and the list L tell the same. -/
structure Rel (T : Tab) (L : List Ce) (last : Int) : Prop where
  may : ∀ d ∈ L, mayB d.x = true
  pl : ∀ d ∈ L, isP d.env d.slot = true
  tab : ∀ d ∈ L, (T d.j).x = d.x
  no : ∀ d ∈ L, 1 ≤ d.no ∧ d.no ≤ last
  nos : (L.map Ce.no).Nodup
  pls : (L.map Ce.j).Nodup
  full : ∀ j, j < 768 → T j = Hd.no ∨ ∃ d ∈ L, d.j = j
  par : ∀ d ∈ L, (d.ob = 0 ∧ (T d.j).e = 0 ∧ (T d.j).s = 0) ∨ ∃ p ∈ L, d.ob = p.no ∧ p.no < d.no ∧ (T d.j).e = p.env ∧ (T d.j).s = p.slot
theorem Rel.zero : Rel a0 [] 0 :=
  ⟨fun d h => by simp at h, fun d h => by simp at h, fun d h => by simp at h, fun d h => by simp at h, by simp, by simp, fun j _ => Or.inl rfl, fun d h => by simp at h⟩
section
variable {T : Tab} {L : List Ce} {last : Int}
theorem Rel.sanes (h : Rel T L last) : Sanes T := by
  intro j hj
  rcases h.full j hj with e | ⟨d, hd, rfl⟩
  · rw [e]; exact Sane.no
  · rw [h.tab d hd]; exact mayB_sane (h.may d hd)
theorem Rel.rsanes (h : Rel T L last) : RSanes L := fun d hd => mayB_sane (h.may d hd)
theorem Rel.jj (h : Rel T L last) {a b : Ce} (ha : a ∈ L) (hb : b ∈ L) (e1 : a.env = b.env) (e2 : a.slot = b.slot) : a = b :=
  nd_uniq h.pls ha hb (by show dropJ a.env a.slot = dropJ b.env b.slot; rw [e1, e2])
theorem Rel.nn (h : Rel T L last) {a b : Ce} (ha : a ∈ L) (hb : b ∈ L) (e : a.no = b.no) : a = b := nd_uniq h.nos ha hb e
theorem Rel.pj (h : Rel T L last) {d : Ce} (hd : d ∈ L) : plOf d.j = (d.env, d.slot) := (isP_j (h.pl d hd)).2
theorem Rel.lt (h : Rel T L last) {d : Ce} (hd : d ∈ L) : d.j < 768 := (isP_j (h.pl d hd)).1
theorem Rel.slot (h : Rel T L last) {d : Ce} (hd : d ∈ L) : d.slot ≠ 0 := by
  have := plOf_pos d.j
  rw [h.pj hd] at this
  exact this

theorem getT_j {n s : Int} (h : isP n s = true) : getT T n s = (T (dropJ n s)).x := by
  unfold getT
  rw [if_pos h]
  rfl
theorem Rel.find (h : Rel T L last) (n s : Int) : (rfindI L n s = -1 ∧ (getT T n s).is = false) ∨
    ∃ (k : Nat) (d : Ce), rfindI L n s = (k : Int) ∧ L[k]? = some d ∧ d.env = n ∧ d.slot = s ∧ getT T n s = d.x ∧ (getT T n s).is = true := by
  rcases rfindI_range L n s with e | ⟨k, d, e, hd, hat⟩
  · left
    refine ⟨e, ?_⟩
    cases hi : (getT T n s).is with
    | false => rfl
    | true =>
      exfalso
      obtain ⟨i, hi7, hpl, hg, hdj⟩ := get_slot hi
      rcases h.full i hi7 with e0 | ⟨d, hd, ed⟩
      · rw [hg, e0] at hi
        exact absurd hi (by decide)
      · have hp := h.pj hd
        rw [ed, hpl] at hp
        simp only [Prod.mk.injEq] at hp
        have hlt : rfind L n s < L.length := by
          unfold rfind
          exact List.findIdx_lt_length.2 ⟨d, hd, by simp [atB, hp.1, hp.2]⟩
        unfold rfindI at e
        rw [if_pos hlt] at e
        omega
  · right
    have hm := List.mem_of_getElem? hd
    simp only [atB, Bool.and_eq_true, beq_iff_eq] at hat
    obtain ⟨rfl, rfl⟩ := hat
    have hg : getT T d.env d.slot = d.x := by rw [getT_j (h.pl d hm)]; exact h.tab d hm
    exact ⟨k, d, e, hd, rfl, rfl, hg, by rw [hg]; exact mayB_is (h.may d hm)⟩
theorem Rel.get (h : Rel T L last) (n s : Int) : getT T n s = rgetX L n s ∧ (getT T n s).is = decide (0 ≤ rfindI L n s) := by
  rcases h.find n s with ⟨e, hi⟩ | ⟨k, d, e, hd, rfl, rfl, hg, hi⟩
  · have hz : getT T n s = Cp.no := by
      cases hp : isP n s with
      | false => exact getT_no T n s hp
      | true =>
        rw [getT_j hp] at hi ⊢
        rcases h.full _ (isP_j hp).1 with e0 | ⟨d, hd, ed⟩
        · rw [e0]
        · rw [← ed, h.tab d hd, mayB_is (h.may d hd)] at hi
          cases hi
    refine ⟨?_, by rw [hi, e]; rfl⟩
    rw [hz]
    unfold rgetX
    have : L[rfind L n s]? = none := by
      rw [List.getElem?_eq_none]
      unfold rfindI at e
      split at e
      · omega
      · omega
    rw [this]
  · refine ⟨?_, by rw [hi, e]; simp⟩
    rw [hg]
    unfold rgetX
    have hk : rfind L d.env d.slot = k := by
      unfold rfindI at e
      split at e
      · omega
      · omega
    rw [hk, hd]
theorem Rel.slotIs (h : Rel T L last) {n : Int} (hn : isE n = true) {s : Nat} (hs : s < 64) : (T (n.toNat * 64 + s)).x.is = decide (0 ≤ rfindI L n ((s + 1 : Nat) : Int)) := by
  have hp : isP n ((s + 1 : Nat) : Int) = true := by
    unfold isP
    rw [hn]
    simp
    omega
  have hg := getT_j (T := T) hp
  have e : dropJ n ((s + 1 : Nat) : Int) = n.toNat * 64 + s := by simp [dropJ]
  rw [e] at hg
  rw [← hg]
  exact (h.get _ _).2
theorem Rel.free (h : Rel T L last) {n : Int} (hn : isE n = true) : rfree L n = putA T n.toNat := by
  unfold putA
  by_cases hf : freeT T n.toNat < 64
  · rw [if_pos hf]
    refine rfree_hit hf ?_ (fun j hj => ?_)
    · have h1 := freeT_free T n.toNat hf
      rw [h.slotIs hn hf] at h1
      simpa using h1
    · have h1 := freeT_taken T n.toNat j hj
      rw [h.slotIs hn (by omega)] at h1
      simpa using h1
  · rw [if_neg hf]
    refine rfree_miss (fun j hj => ?_)
    have h1 := freeT_taken T n.toNat j (by omega)
    rw [h.slotIs hn hj] at h1
    simpa using h1
end

section
variable {T : Tab} {L : List Ce} {last : Int}
theorem Rel.putE (h : Rel T L last) {n : Int} (hn : isE n = true) : rputE L n = putE T n.toNat := by
  unfold rputE
  rw [h.free hn]
  unfold Go.Proofs.YtfnafjddajgahaaGreat.Ca.putA Go.Proofs.YtfnafjddajgahaaGreat.Ca.putE
  split
  · rw [if_neg (by omega)]
  · rw [if_pos rfl]
theorem Rel.put (h : Rel T L last) {n : Int} (hn : isE n = true) (hl : 0 ≤ last) (x : Cp) (hx : mayB x = true) (ob e s : Int) (hof : (ob = 0 ∧ e = 0 ∧ s = 0) ∨ ∃ p ∈ L, ob = p.no ∧ e = p.env ∧ s = p.slot) :
    Rel (putT T n.toNat ⟨x, e, s⟩) (rputL L last n ob x) (rputN L last n) := by
  have hfr := h.free hn
  unfold putT rputL rputN
  unfold putA at hfr
  by_cases hf : freeT T n.toNat < 64
  · rw [if_pos hf] at hfr ⊢
    rw [hfr, if_neg (by omega), if_neg (by omega)]
    have hfree := freeT_free T n.toNat hf
    have hn2 := hn
    simp [isE] at hn2
    generalize freeT T n.toNat = f at *
    obtain ⟨q, hq⟩ : ∃ q, q = n.toNat * 64 + f := ⟨_, rfl⟩
    rw [← hq] at hfree ⊢
    have hdj : dropJ n ((f + 1 : Nat) : Int) = q := by simp [dropJ, hq]
    have hp : isP n ((f + 1 : Nat) : Int) = true := by
      unfold isP
      rw [hn]
      simp
      omega
    have old : ∀ d ∈ L, d.j ≠ q := by
      intro d hd e
      rw [← e, h.tab d hd, mayB_is (h.may d hd)] at hfree
      cases hfree
    have keep : ∀ d ∈ L, (T.set q ⟨x, e, s⟩) d.j = T d.j := fun d hd => Tab.set_other _ _ _ _ (old d hd)
    refine ⟨fun d hd => ?_, fun d hd => ?_, fun d hd => ?_, fun d hd => ?_, ?_, ?_, fun j hj => ?_, fun d hd => ?_⟩
    · rcases List.mem_append.1 hd with hd | hd
      · exact h.may d hd
      · obtain rfl := List.mem_singleton.1 hd
        exact hx
    · rcases List.mem_append.1 hd with hd | hd
      · exact h.pl d hd
      · obtain rfl := List.mem_singleton.1 hd
        exact hp
    · rcases List.mem_append.1 hd with hd | hd
      · rw [keep d hd]
        exact h.tab d hd
      · obtain rfl := List.mem_singleton.1 hd
        show (T.set q ⟨x, e, s⟩ (dropJ n ((f + 1 : Nat) : Int))).x = x
        rw [hdj, Tab.set_same]
    · rcases List.mem_append.1 hd with hd | hd
      · have := h.no d hd
        omega
      · obtain rfl := List.mem_singleton.1 hd
        dsimp only
        omega
    · rw [List.map_append, List.nodup_append]
      refine ⟨h.nos, by simp, fun a ha b hb => ?_⟩
      obtain ⟨d, hd, rfl⟩ := List.mem_map.1 ha
      simp only [List.map_cons, List.map_nil, List.mem_singleton] at hb
      have := h.no d hd
      omega
    · rw [List.map_append, List.nodup_append]
      refine ⟨h.pls, by simp, fun a ha b hb => ?_⟩
      obtain ⟨d, hd, rfl⟩ := List.mem_map.1 ha
      simp only [List.map_cons, List.map_nil, List.mem_singleton] at hb
      rw [hb]
      show d.j ≠ dropJ n ((f + 1 : Nat) : Int)
      rw [hdj]
      exact old d hd
    · by_cases ej : j = q
      · exact Or.inr ⟨_, List.mem_append_right _ (List.mem_singleton.2 rfl), hdj.trans ej.symm⟩
      · rw [Tab.set_other _ _ _ _ ej]
        rcases h.full j hj with e0 | ⟨d, hd, ed⟩
        · exact Or.inl e0
        · exact Or.inr ⟨d, List.mem_append_left _ hd, ed⟩
    · rcases List.mem_append.1 hd with hd | hd
      · rw [keep d hd]
        rcases h.par d hd with h1 | ⟨p, hp1, h2⟩
        · exact Or.inl h1
        · exact Or.inr ⟨p, List.mem_append_left _ hp1, h2⟩
      · obtain rfl := List.mem_singleton.1 hd
        have hq2 : (T.set q ⟨x, e, s⟩) (dropJ n ((f + 1 : Nat) : Int)) = ⟨x, e, s⟩ := by rw [hdj, Tab.set_same]
        rcases hof with ⟨h1, h2, h3⟩ | ⟨p, hp1, h1, h2, h3⟩
        · left
          refine ⟨h1, ?_, ?_⟩
          · show ((T.set q ⟨x, e, s⟩) (dropJ n ((f + 1 : Nat) : Int))).e = 0
            rw [hq2]; exact h2
          · show ((T.set q ⟨x, e, s⟩) (dropJ n ((f + 1 : Nat) : Int))).s = 0
            rw [hq2]; exact h3
        · right
          refine ⟨p, List.mem_append_left _ hp1, h1, ?_, ?_, ?_⟩
          · show p.no < last + 1
            have := h.no p hp1
            omega
          · show ((T.set q ⟨x, e, s⟩) (dropJ n ((f + 1 : Nat) : Int))).e = p.env
            rw [hq2]; exact h2
          · show ((T.set q ⟨x, e, s⟩) (dropJ n ((f + 1 : Nat) : Int))).s = p.slot
            rw [hq2]; exact h3
  · rw [if_neg hf] at hfr ⊢
    rw [hfr, if_pos rfl, if_pos rfl]
    exact h
end

/-- What a Drop makes of those that are left. -/
def rdropG (d c : Ce) : Ce := if c.ob = d.no then ⟨c.no, d.ob, c.env, c.slot, c.x⟩ else c
theorem rdropG_no (d c : Ce) : (rdropG d c).no = c.no := by unfold rdropG; split <;> rfl
theorem rdropG_env (d c : Ce) : (rdropG d c).env = c.env := by unfold rdropG; split <;> rfl
theorem rdropG_slot (d c : Ce) : (rdropG d c).slot = c.slot := by unfold rdropG; split <;> rfl
theorem rdropG_x (d c : Ce) : (rdropG d c).x = c.x := by unfold rdropG; split <;> rfl
theorem rdropG_j (d c : Ce) : (rdropG d c).j = c.j := by show dropJ _ _ = dropJ _ _; rw [rdropG_env, rdropG_slot]
theorem split_at {L : List Ce} {k : Nat} {d : Ce} (h : L[k]? = some d) : L = L.take k ++ d :: L.drop (k + 1) := by
  obtain ⟨hk, rfl⟩ := List.getElem?_eq_some_iff.1 h
  simp
section
variable {T : Tab} {last : Int}
theorem Rel.drop {A B : List Ce} {d : Ce} (h : Rel T (A ++ d :: B) last) : Rel (dropT T d.env d.slot) ((A ++ B).map (rdropG d)) last ∧ dropB T d.env d.slot = !((A ++ B).any fun c => meetsB c.x d.x) ∧ dropR T d.env d.slot = 0 := by
  have hd : d ∈ A ++ d :: B := by simp
  have sub : ∀ c ∈ A ++ B, c ∈ A ++ d :: B := by
    intro c hc
    simp only [List.mem_append, List.mem_cons] at hc ⊢
    rcases hc with hc | hc
    · exact Or.inl hc
    · exact Or.inr (Or.inr hc)
  have hsl : (A ++ B).Sublist (A ++ d :: B) := List.Sublist.append (List.Sublist.refl _) (List.sublist_cons_self d B)
  have back : ∀ c ∈ A ++ d :: B, c ≠ d → c ∈ A ++ B := by
    intro c hc hne
    simp only [List.mem_append, List.mem_cons] at hc ⊢
    rcases hc with hc | hc | hc
    · exact Or.inl hc
    · exact absurd hc hne
    · exact Or.inr hc
  have hnod : d.no ∉ (A ++ B).map Ce.no := by
    have h1 := h.nos
    have hp : (A ++ d :: B).Perm (d :: (A ++ B)) := List.perm_middle
    have h2 := (hp.map Ce.no).nodup_iff.1 h1
    rw [List.map_cons, List.nodup_cons] at h2
    exact h2.1
  have ne : ∀ c ∈ A ++ B, c ≠ d := fun c hc e => hnod (by rw [← e]; exact List.mem_map_of_mem hc)
  have nej : ∀ c ∈ A ++ B, c.j ≠ d.j := fun c hc e => ne c hc (nd_uniq h.pls (sub c hc) hd e)
  have hg : getT T d.env d.slot = d.x := by rw [getT_j (h.pl d hd)]; exact h.tab d hd
  have hi : (getT T d.env d.slot).is = true := by rw [hg]; exact mayB_is (h.may d hd)
  have hat := dropT_at hi (h.pj hd) rfl
  have hpl := h.pj hd
  have hx : ∀ c ∈ A ++ B, (dropT T d.env d.slot c.j).x = c.x := by
    intro c hc
    rw [hat c.j (h.lt (sub c hc)), if_neg (nej c hc)]
    split
    · exact h.tab c (sub c hc)
    · exact h.tab c (sub c hc)
  have hR : Rel (dropT T d.env d.slot) ((A ++ B).map (rdropG d)) last := by
    refine ⟨fun c hc => ?_, fun c hc => ?_, fun c hc => ?_, fun c hc => ?_, ?_, ?_, fun j hj => ?_, fun c hc => ?_⟩
    · obtain ⟨c, hcc, rfl⟩ := List.mem_map.1 hc
      have hc := hcc
      rw [rdropG_x]
      exact h.may c (sub c hc)
    · obtain ⟨c, hcc, rfl⟩ := List.mem_map.1 hc
      have hc := hcc
      rw [rdropG_env, rdropG_slot]
      exact h.pl c (sub c hc)
    · obtain ⟨c, hcc, rfl⟩ := List.mem_map.1 hc
      have hc := hcc
      rw [rdropG_j, rdropG_x]
      exact hx c hc
    · obtain ⟨c, hcc, rfl⟩ := List.mem_map.1 hc
      have hc := hcc
      rw [rdropG_no]
      exact h.no c (sub c hc)
    · have e : ((A ++ B).map (rdropG d)).map Ce.no = (A ++ B).map Ce.no := by
        rw [List.map_map]
        exact List.map_congr_left (fun c _ => rdropG_no d c)
      rw [e]
      exact h.nos.sublist (hsl.map _)
    · have e : ((A ++ B).map (rdropG d)).map Ce.j = (A ++ B).map Ce.j := by
        rw [List.map_map]
        exact List.map_congr_left (fun c _ => rdropG_j d c)
      rw [e]
      exact h.pls.sublist (hsl.map _)
    · by_cases e : j = d.j
      · left
        rw [hat j hj, if_pos e]
      · rcases h.full j hj with e0 | ⟨c, hc, ec⟩
        · left
          rw [hat j hj, if_neg e, if_neg, e0]
          rw [e0, ofB_no _ (plOf_pos _)]
          simp
        · right
          have hc2 := back c hc (fun e2 => e (by rw [← ec, e2]))
          exact ⟨rdropG d c, List.mem_map_of_mem hc2, (rdropG_j d c).trans ec⟩
    · obtain ⟨c, hcc, rfl⟩ := List.mem_map.1 hc
      have hc := hcc
      rw [rdropG_j]
      have hTc := hat c.j (h.lt (sub c hc))
      rw [if_neg (nej c hc), hpl] at hTc
      by_cases ho : ofB (T c.j) d.env d.slot = true
      · rw [if_pos ho] at hTc
        have ho2 := ofB_iff.1 ho
        have hob : c.ob = d.no ∧ d.no < c.no := by
          rcases h.par c (sub c hc) with ⟨_, _, h3⟩ | ⟨p, hp, h1, h2, h3, h4⟩
          · exact absurd (ho2.2.symm.trans h3) (h.slot hd)
          · have : p = d := h.jj hp hd (h3.symm.trans ho2.1) (h4.symm.trans ho2.2)
            rw [this] at h1 h2
            exact ⟨h1, h2⟩
        have e : rdropG d c = ⟨c.no, d.ob, c.env, c.slot, c.x⟩ := by unfold rdropG; rw [if_pos hob.1]
        rw [e, hTc]
        dsimp only
        rcases h.par d hd with h1 | ⟨p, hp, h1, h2, h3, h4⟩
        · exact Or.inl h1
        · right
          have hpd : p ≠ d := fun e => by rw [e] at h2; omega
          refine ⟨rdropG d p, List.mem_map_of_mem (back p hp hpd), ?_, ?_, ?_, ?_⟩
          · rw [rdropG_no]; exact h1
          · rw [rdropG_no]; have := hob.2; omega
          · rw [rdropG_env]; exact h3
          · rw [rdropG_slot]; exact h4
      · rw [if_neg ho] at hTc
        rw [hTc]
        rcases h.par c (sub c hc) with ⟨h1, h2, h3⟩ | ⟨p, hp, h1, h2, h3, h4⟩
        · left
          have hdn := (h.no d hd).1
          have e : rdropG d c = c := by unfold rdropG; rw [if_neg (by omega)]
          rw [e]
          exact ⟨h1, h2, h3⟩
        · right
          have hpd : p ≠ d := by
            intro e
            rw [e] at h3 h4
            exact ho (ofB_iff.2 ⟨h3, h4⟩)
          have e : rdropG d c = c := by
            unfold rdropG
            rw [if_neg]
            intro e2
            exact hpd (h.nn hp hd (h1.symm.trans e2))
          rw [e]
          refine ⟨rdropG d p, List.mem_map_of_mem (back p hp hpd), ?_, ?_, ?_, ?_⟩
          · rw [rdropG_no]; exact h1
          · rw [rdropG_no]; exact h2
          · rw [rdropG_env]; exact h3
          · rw [rdropG_slot]; exact h4
  refine ⟨hR, ?_, ?_⟩
  · unfold dropB
    rw [hi, hg, Bool.true_and]
    refine congrArg (! ·) ?_
    cases hb : ((A ++ B).any fun c => meetsB c.x d.x) with
    | true =>
      obtain ⟨c, hc, hm⟩ := List.any_eq_true.1 hb
      exact anyM_hit (h.lt (sub c hc)) (by rw [hx c hc]; exact hm)
    | false =>
      refine anyM_miss (fun j hj => ?_)
      rcases hR.full j hj with e0 | ⟨c, hc, rfl⟩
      · rw [e0]
        have hk := h.may d hd
        simp only [mayB, longOk, Bool.and_eq_true, Bool.or_eq_true, beq_iff_eq, decide_eq_true_eq] at hk
        have : (0 == d.x.kind) = false := by simp; omega
        simp [meetsB, this]
      · obtain ⟨c, hcc, rfl⟩ := List.mem_map.1 hc
        have hc := hcc
        rw [rdropG_j, hx c hc]
        have := List.any_eq_false.1 hb c hc
        simpa using this
  · unfold dropR
    rw [if_pos hi]
end
end Ca
end Go.Proofs.YtfnafjddajgahaaGreat
