import Derived.Test.YtbhpafgoofkkmaaGreatDoorCapAll
import Derived.Test.YtbhpafgoofkkmaaGreatDoorRefCa
import Derived.Deep.DeepCutAuto
set_option linter.all false
namespace Go.Proofs.YtbhpafgoofkkmaaGreatDoor
open Go.RowKit
namespace Ca
abbrev Ce.j (d : Ce) : Nat := dropJ d.env d.slot
theorem isP_j {n s : Int} (h : isP n s = true) : dropJ n s < 768 ∧ plOf (dropJ n s) = (n, s) := by
 obtain ⟨a, c, rfl, rfl, ha, hc⟩ := isP_nat h
 have e : dropJ a (c + 1 : Nat) = a * 64 + c := by simp [dropJ]
 rw [e]
 exact ⟨by omega, plOf_at hc⟩
theorem nd_uniq {β : Type} {f : Ce → β} : ∀ {L : List Ce} {a b : Ce}, (L.map f).Nodup → a ∈ L → b ∈ L → f a = f b → a = b
 | [], a, b, _, ha, _, _ => by simp at ha
 | c :: L, a, b, h, ha, hb, e => by
  rw [List.map_cons, List.nodup_cons] at h
  rcases List.mem_cons.1 ha with rfl | ha' <;> rcases List.mem_cons.1 hb with rfl | hb'
  ·rfl
  ·exact absurd (by rw [e]; exact List.mem_map_of_mem hb') h.1
  ·exact absurd (by rw [← e]; exact List.mem_map_of_mem ha') h.1
  ·exact nd_uniq h.2 ha' hb' e
structure Rel (T : Tab) (L : List Ce) (last : Int) : Prop where
 may : ∀ d ∈ L, mayB d.x = true
 pl : ∀ d ∈ L, isP d.env d.slot = true
 tab : ∀ d ∈ L, (T d.j).x = d.x
 no : ∀ d ∈ L, 1 ≤ d.no ∧ d.no ≤ last
 nos : (L.map Ce.no).Nodup
 pls : (L.map Ce.j).Nodup
 full : ∀ j, j < 768 → T j = Hd.no ∨ ∃ d ∈ L, d.j = j
 par : ∀ d ∈ L, (d.ob = 0 ∧ (T d.j).e = 0 ∧ (T d.j).s = 0) ∨ ∃ p ∈ L, d.ob = p.no ∧ p.no < d.no ∧ (T d.j).e = p.env ∧ (T d.j).s = p.slot
theorem Rel.zero : Rel a0 [] 0 :=
 ⟨fun d h => by simp at h, fun d h => by simp at h, fun d h => by simp at h, fun d h => by simp at h, by simp, by simp, fun j _ => Or.inl rfl, fun d h => by simp at h⟩
section
variable {T : Tab} {L : List Ce} {last : Int}
theorem Rel.rsanes (h : Rel T L last) : RSanes L := fun d hd => mayB_sane (h.may d hd)
theorem Rel.jj (h : Rel T L last) {a b : Ce} (ha : a ∈ L) (hb : b ∈ L) (e1 : a.env = b.env) (e2 : a.slot = b.slot) : a = b :=
 nd_uniq h.pls ha hb (by show dropJ a.env a.slot = dropJ b.env b.slot; rw [e1, e2])
theorem Rel.nn (h : Rel T L last) {a b : Ce} (ha : a ∈ L) (hb : b ∈ L) (e : a.no = b.no) : a = b := nd_uniq h.nos ha hb e
theorem Rel.pj (h : Rel T L last) {d : Ce} (hd : d ∈ L) : plOf d.j = (d.env, d.slot) := (isP_j (h.pl d hd)).2
theorem Rel.lt (h : Rel T L last) {d : Ce} (hd : d ∈ L) : d.j < 768 := (isP_j (h.pl d hd)).1
theorem Rel.slot (h : Rel T L last) {d : Ce} (hd : d ∈ L) : d.slot ≠ 0 := by
 have := plOf_pos d.j
 rw [h.pj hd] at this
 exact this
theorem getT_j {n s : Int} (h : isP n s = true) : getT T n s = (T (dropJ n s)).x := by
 unfold getT
 rw [if_pos h]
 rfl
theorem Rel.find (h : Rel T L last) (n s : Int) : (rfindI L n s = -1 ∧ (getT T n s).is = false) ∨
  ∃ (k : Nat) (d : Ce), rfindI L n s = (k : Int) ∧ L[k]? = some d ∧ d.env = n ∧ d.slot = s ∧ getT T n s = d.x ∧ (getT T n s).is = true := by
 rcases rfindI_range L n s with e | ⟨k, d, e, hd, hat⟩
 ·left
  refine ⟨e, ?_⟩
  cases hi : (getT T n s).is with
  | false => rfl
  | true =>
   exfalso
   obtain ⟨i, hi7, hpl, hg, hdj⟩ := get_slot hi
   rcases h.full i hi7 with e0 | ⟨d, hd, ed⟩
   ·rw [hg, e0] at hi
    exact absurd hi (by decide)
   ·have hp := h.pj hd
    rw [ed, hpl] at hp
    simp only [Prod.mk.injEq] at hp
    have hlt : rfind L n s < L.length := by
     unfold rfind
     exact List.findIdx_lt_length.2 ⟨d, hd, by simp [atB, hp.1, hp.2]⟩
    unfold rfindI at e
    rw [if_pos hlt] at e
    omega
 ·right
  have hm := List.mem_of_getElem? hd
  simp only [atB, Bool.and_eq_true, beq_iff_eq] at hat
  obtain ⟨rfl, rfl⟩ := hat
  have hg : getT T d.env d.slot = d.x := by rw [getT_j (h.pl d hm)]; exact h.tab d hm
  exact ⟨k, d, e, hd, rfl, rfl, hg, by rw [hg]; exact mayB_is (h.may d hm)⟩
theorem Rel.get (h : Rel T L last) (n s : Int) : getT T n s = rgetX L n s ∧ (getT T n s).is = decide (0 ≤ rfindI L n s) := by
 rcases h.find n s with ⟨e, hi⟩ | ⟨k, d, e, hd, rfl, rfl, hg, hi⟩
 ·have hz : getT T n s = Cp.no := by
   cases hp : isP n s with
   | false => exact getT_no T n s hp
   | true =>
    rw [getT_j hp] at hi ⊢
    rcases h.full _ (isP_j hp).1 with e0 | ⟨d, hd, ed⟩
    ·rw [e0]
    ·rw [← ed, h.tab d hd, mayB_is (h.may d hd)] at hi
     cases hi
  refine ⟨?_, by rw [hi, e]; rfl⟩
  rw [hz]
  unfold rgetX
  have : L[rfind L n s]? = none := by
   rw [List.getElem?_eq_none]
   unfold rfindI at e
   split at e
   ·omega
   ·omega
  rw [this]
 ·refine ⟨?_, by rw [hi, e]; simp⟩
  rw [hg]
  unfold rgetX
  have hk : rfind L d.env d.slot = k := by
   unfold rfindI at e
   split at e
   ·omega
   ·omega
  rw [hk, hd]
theorem Rel.slotIs (h : Rel T L last) {n : Int} (hn : isE n = true) {s : Nat} (hs : s < 64) : (T (n.toNat * 64 + s)).x.is = decide (0 ≤ rfindI L n ((s + 1 : Nat) : Int)) := by
 have hp : isP n ((s + 1 : Nat) : Int) = true := by
  unfold isP
  rw [hn]
  simp
  omega
 have hg := getT_j (T := T) hp
 have e : dropJ n ((s + 1 : Nat) : Int) = n.toNat * 64 + s := by simp [dropJ]
 rw [e] at hg
 rw [← hg]
 exact (h.get _ _).2
theorem Rel.free (h : Rel T L last) {n : Int} (hn : isE n = true) : rfree L n = putA T n.toNat := by
 unfold putA
 by_cases hf : freeT T n.toNat < 64
 ·rw [if_pos hf]
  refine rfree_hit hf ?_ (fun j hj => ?_)
  ·have h1 := freeT_free T n.toNat hf
   rw [h.slotIs hn hf] at h1
   simpa using h1
  ·have h1 := freeT_taken T n.toNat j hj
   rw [h.slotIs hn (by omega)] at h1
   simpa using h1
 ·rw [if_neg hf]
  refine rfree_miss (fun j hj => ?_)
  have h1 := freeT_taken T n.toNat j (by omega)
  rw [h.slotIs hn hj] at h1
  simpa using h1
end
section
variable {T : Tab} {L : List Ce} {last : Int}
theorem Rel.putE (h : Rel T L last) {n : Int} (hn : isE n = true) : rputE L n = putE T n.toNat := by
 unfold rputE
 rw [h.free hn]
 unfold Go.Proofs.YtbhpafgoofkkmaaGreatDoor.Ca.putA Go.Proofs.YtbhpafgoofkkmaaGreatDoor.Ca.putE
 split
 ·rw [if_neg (by omega)]
 ·rw [if_pos rfl]
theorem Rel.put (h : Rel T L last) {n : Int} (hn : isE n = true) (hl : 0 ≤ last) (x : Cp) (hx : mayB x = true) (ob e s : Int) (hof : (ob = 0 ∧ e = 0 ∧ s = 0) ∨ ∃ p ∈ L, ob = p.no ∧ e = p.env ∧ s = p.slot) :
  Rel (putT T n.toNat ⟨x, e, s⟩) (rputL L last n ob x) (rputN L last n) := by
 have hfr := h.free hn
 unfold putT rputL rputN
 unfold putA at hfr
 by_cases hf : freeT T n.toNat < 64
 ·rw [if_pos hf] at hfr ⊢
  rw [hfr, if_neg (by omega), if_neg (by omega)]
  have hfree := freeT_free T n.toNat hf
  have hn2 := hn
  simp [isE] at hn2
  generalize freeT T n.toNat = f at *
  obtain ⟨q, hq⟩ : ∃ q, q = n.toNat * 64 + f := ⟨_, rfl⟩
  rw [← hq] at hfree ⊢
  have hdj : dropJ n ((f + 1 : Nat) : Int) = q := by simp [dropJ, hq]
  have hp : isP n ((f + 1 : Nat) : Int) = true := by
   unfold isP
   rw [hn]
   simp
   omega
  have old : ∀ d ∈ L, d.j ≠ q := by
   intro d hd e
   rw [← e, h.tab d hd, mayB_is (h.may d hd)] at hfree
   cases hfree
  have keep : ∀ d ∈ L, (T.set q ⟨x, e, s⟩) d.j = T d.j := fun d hd => Tab.set_other _ _ _ _ (old d hd)
  refine ⟨fun d hd => ?_, fun d hd => ?_, fun d hd => ?_, fun d hd => ?_, ?_, ?_, fun j hj => ?_, fun d hd => ?_⟩
  ·rcases List.mem_append.1 hd with hd | hd
   ·exact h.may d hd
   ·obtain rfl := List.mem_singleton.1 hd
    exact hx
  ·rcases List.mem_append.1 hd with hd | hd
   ·exact h.pl d hd
   ·obtain rfl := List.mem_singleton.1 hd
    exact hp
  ·rcases List.mem_append.1 hd with hd | hd
   ·rw [keep d hd]
    exact h.tab d hd
   ·obtain rfl := List.mem_singleton.1 hd
    show (T.set q ⟨x, e, s⟩ (dropJ n ((f + 1 : Nat) : Int))).x = x
    rw [hdj, Tab.set_same]
  ·rcases List.mem_append.1 hd with hd | hd
   ·have := h.no d hd
    omega
   ·obtain rfl := List.mem_singleton.1 hd
    dsimp only
    omega
  ·rw [List.map_append, List.nodup_append]
   refine ⟨h.nos, by simp, fun a ha b hb => ?_⟩
   obtain ⟨d, hd, rfl⟩ := List.mem_map.1 ha
   simp only [List.map_cons, List.map_nil, List.mem_singleton] at hb
   have := h.no d hd
   omega
  ·rw [List.map_append, List.nodup_append]
   refine ⟨h.pls, by simp, fun a ha b hb => ?_⟩
   obtain ⟨d, hd, rfl⟩ := List.mem_map.1 ha
   simp only [List.map_cons, List.map_nil, List.mem_singleton] at hb
   rw [hb]
   show d.j ≠ dropJ n ((f + 1 : Nat) : Int)
   rw [hdj]
   exact old d hd
  ·by_cases ej : j = q
   ·exact Or.inr ⟨_, List.mem_append_right _ (List.mem_singleton.2 rfl), hdj.trans ej.symm⟩
   ·rw [Tab.set_other _ _ _ _ ej]
    rcases h.full j hj with e0 | ⟨d, hd, ed⟩
    ·exact Or.inl e0
    ·exact Or.inr ⟨d, List.mem_append_left _ hd, ed⟩
  ·rcases List.mem_append.1 hd with hd | hd
   ·rw [keep d hd]
    rcases h.par d hd with h1 | ⟨p, hp1, h2⟩
    ·exact Or.inl h1
    ·exact Or.inr ⟨p, List.mem_append_left _ hp1, h2⟩
   ·obtain rfl := List.mem_singleton.1 hd
    have hq2 : (T.set q ⟨x, e, s⟩) (dropJ n ((f + 1 : Nat) : Int)) = ⟨x, e, s⟩ := by rw [hdj, Tab.set_same]
    rcases hof with ⟨h1, h2, h3⟩ | ⟨p, hp1, h1, h2, h3⟩
    ·left
     refine ⟨h1, ?_, ?_⟩
     ·show ((T.set q ⟨x, e, s⟩) (dropJ n ((f + 1 : Nat) : Int))).e = 0
      rw [hq2]; exact h2
     ·show ((T.set q ⟨x, e, s⟩) (dropJ n ((f + 1 : Nat) : Int))).s = 0
      rw [hq2]; exact h3
    ·right
     refine ⟨p, List.mem_append_left _ hp1, h1, ?_, ?_, ?_⟩
     ·show p.no < last + 1
      have := h.no p hp1
      omega
     ·show ((T.set q ⟨x, e, s⟩) (dropJ n ((f + 1 : Nat) : Int))).e = p.env
      rw [hq2]; exact h2
     ·show ((T.set q ⟨x, e, s⟩) (dropJ n ((f + 1 : Nat) : Int))).s = p.slot
      rw [hq2]; exact h3
 ·rw [if_neg hf] at hfr ⊢
  rw [hfr, if_pos rfl, if_pos rfl]
  exact h
end
def rdropG (d c : Ce) : Ce := if c.ob = d.no then ⟨c.no, d.ob, c.env, c.slot, c.x⟩ else c
theorem rdropG_no (d c : Ce) : (rdropG d c).no = c.no := by unfold rdropG; split <;> rfl
theorem rdropG_env (d c : Ce) : (rdropG d c).env = c.env := by unfold rdropG; split <;> rfl
theorem rdropG_slot (d c : Ce) : (rdropG d c).slot = c.slot := by unfold rdropG; split <;> rfl
theorem rdropG_x (d c : Ce) : (rdropG d c).x = c.x := by unfold rdropG; split <;> rfl
theorem rdropG_j (d c : Ce) : (rdropG d c).j = c.j := by show dropJ _ _ = dropJ _ _; rw [rdropG_env, rdropG_slot]
theorem split_at {L : List Ce} {k : Nat} {d : Ce} (h : L[k]? = some d) : L = L.take k ++ d :: L.drop (k + 1) := by
 obtain ⟨hk, rfl⟩ := List.getElem?_eq_some_iff.1 h
 simp
section
variable {T : Tab} {last : Int}
theorem Rel.drop {A B : List Ce} {d : Ce} (h : Rel T (A ++ d :: B) last) : Rel (dropT T d.env d.slot) ((A ++ B).map (rdropG d)) last ∧ dropB T d.env d.slot = !((A ++ B).any fun c => meetsB c.x d.x) ∧ dropR T d.env d.slot = 0 := by
 have hd : d ∈ A ++ d :: B := by simp
 have sub : ∀ c ∈ A ++ B, c ∈ A ++ d :: B := by
  intro c hc
  simp only [List.mem_append, List.mem_cons] at hc ⊢
  rcases hc with hc | hc
  ·exact Or.inl hc
  ·exact Or.inr (Or.inr hc)
 have hsl : (A ++ B).Sublist (A ++ d :: B) := List.Sublist.append (List.Sublist.refl _) (List.sublist_cons_self d B)
 have back : ∀ c ∈ A ++ d :: B, c ≠ d → c ∈ A ++ B := by
  intro c hc hne
  simp only [List.mem_append, List.mem_cons] at hc ⊢
  rcases hc with hc | hc | hc
  ·exact Or.inl hc
  ·exact absurd hc hne
  ·exact Or.inr hc
 have hnod : d.no ∉ (A ++ B).map Ce.no := by
  have h1 := h.nos
  have hp : (A ++ d :: B).Perm (d :: (A ++ B)) := List.perm_middle
  have h2 := (hp.map Ce.no).nodup_iff.1 h1
  rw [List.map_cons, List.nodup_cons] at h2
  exact h2.1
 have ne : ∀ c ∈ A ++ B, c ≠ d := fun c hc e => hnod (by rw [← e]; exact List.mem_map_of_mem hc)
 have nej : ∀ c ∈ A ++ B, c.j ≠ d.j := fun c hc e => ne c hc (nd_uniq h.pls (sub c hc) hd e)
 have hg : getT T d.env d.slot = d.x := by rw [getT_j (h.pl d hd)]; exact h.tab d hd
 have hi : (getT T d.env d.slot).is = true := by rw [hg]; exact mayB_is (h.may d hd)
 have hat := dropT_at hi (h.pj hd) rfl
 have hpl := h.pj hd
 have hx : ∀ c ∈ A ++ B, (dropT T d.env d.slot c.j).x = c.x := by
  intro c hc
  rw [hat c.j (h.lt (sub c hc)), if_neg (nej c hc)]
  split
  ·exact h.tab c (sub c hc)
  ·exact h.tab c (sub c hc)
 have hR : Rel (dropT T d.env d.slot) ((A ++ B).map (rdropG d)) last := by
  refine ⟨fun c hc => ?_, fun c hc => ?_, fun c hc => ?_, fun c hc => ?_, ?_, ?_, fun j hj => ?_, fun c hc => ?_⟩
  ·obtain ⟨c, hcc, rfl⟩ := List.mem_map.1 hc
   have hc := hcc
   rw [rdropG_x]
   exact h.may c (sub c hc)
  ·obtain ⟨c, hcc, rfl⟩ := List.mem_map.1 hc
   have hc := hcc
   rw [rdropG_env, rdropG_slot]
   exact h.pl c (sub c hc)
  ·obtain ⟨c, hcc, rfl⟩ := List.mem_map.1 hc
   have hc := hcc
   rw [rdropG_j, rdropG_x]
   exact hx c hc
  ·obtain ⟨c, hcc, rfl⟩ := List.mem_map.1 hc
   have hc := hcc
   rw [rdropG_no]
   exact h.no c (sub c hc)
  ·have e : ((A ++ B).map (rdropG d)).map Ce.no = (A ++ B).map Ce.no := by
    rw [List.map_map]
    exact List.map_congr_left (fun c _ => rdropG_no d c)
   rw [e]
   exact h.nos.sublist (hsl.map _)
  ·have e : ((A ++ B).map (rdropG d)).map Ce.j = (A ++ B).map Ce.j := by
    rw [List.map_map]
    exact List.map_congr_left (fun c _ => rdropG_j d c)
   rw [e]
   exact h.pls.sublist (hsl.map _)
  ·by_cases e : j = d.j
   ·left
    rw [hat j hj, if_pos e]
   ·rcases h.full j hj with e0 | ⟨c, hc, ec⟩
    ·left
     rw [hat j hj, if_neg e, if_neg, e0]
     rw [e0, ofB_no _ (plOf_pos _)]
     simp
    ·right
     have hc2 := back c hc (fun e2 => e (by rw [← ec, e2]))
     exact ⟨rdropG d c, List.mem_map_of_mem hc2, (rdropG_j d c).trans ec⟩
  ·obtain ⟨c, hcc, rfl⟩ := List.mem_map.1 hc
   have hc := hcc
   rw [rdropG_j]
   have hTc := hat c.j (h.lt (sub c hc))
   rw [if_neg (nej c hc), hpl] at hTc
   by_cases ho : ofB (T c.j) d.env d.slot = true
   ·rw [if_pos ho] at hTc
    have ho2 := ofB_iff.1 ho
    have hob : c.ob = d.no ∧ d.no < c.no := by
     rcases h.par c (sub c hc) with ⟨_, _, h3⟩ | ⟨p, hp, h1, h2, h3, h4⟩
     ·exact absurd (ho2.2.symm.trans h3) (h.slot hd)
     ·have : p = d := h.jj hp hd (h3.symm.trans ho2.1) (h4.symm.trans ho2.2)
      rw [this] at h1 h2
      exact ⟨h1, h2⟩
    have e : rdropG d c = ⟨c.no, d.ob, c.env, c.slot, c.x⟩ := by unfold rdropG; rw [if_pos hob.1]
    rw [e, hTc]
    dsimp only
    rcases h.par d hd with h1 | ⟨p, hp, h1, h2, h3, h4⟩
    ·exact Or.inl h1
    ·right
     have hpd : p ≠ d := fun e => by rw [e] at h2; omega
     refine ⟨rdropG d p, List.mem_map_of_mem (back p hp hpd), ?_, ?_, ?_, ?_⟩
     ·rw [rdropG_no]; exact h1
     ·rw [rdropG_no]; have := hob.2; omega
     ·rw [rdropG_env]; exact h3
     ·rw [rdropG_slot]; exact h4
   ·rw [if_neg ho] at hTc
    rw [hTc]
    rcases h.par c (sub c hc) with ⟨h1, h2, h3⟩ | ⟨p, hp, h1, h2, h3, h4⟩
    ·left
     have hdn := (h.no d hd).1
     have e : rdropG d c = c := by unfold rdropG; rw [if_neg (by omega)]
     rw [e]
     exact ⟨h1, h2, h3⟩
    ·right
     have hpd : p ≠ d := by
      intro e
      rw [e] at h3 h4
      exact ho (ofB_iff.2 ⟨h3, h4⟩)
     have e : rdropG d c = c := by
      unfold rdropG
      rw [if_neg]
      intro e2
      exact hpd (h.nn hp hd (h1.symm.trans e2))
     rw [e]
     refine ⟨rdropG d p, List.mem_map_of_mem (back p hp hpd), ?_, ?_, ?_, ?_⟩
     ·rw [rdropG_no]; exact h1
     ·rw [rdropG_no]; exact h2
     ·rw [rdropG_env]; exact h3
     ·rw [rdropG_slot]; exact h4
 refine ⟨hR, ?_, ?_⟩
 ·unfold dropB
  rw [hi, hg, Bool.true_and]
  refine congrArg (! ·) ?_
  cases hb : ((A ++ B).any fun c => meetsB c.x d.x) with
  | true =>
   obtain ⟨c, hc, hm⟩ := List.any_eq_true.1 hb
   exact anyM_hit (h.lt (sub c hc)) (by rw [hx c hc]; exact hm)
  | false =>
   refine anyM_miss (fun j hj => ?_)
   rcases hR.full j hj with e0 | ⟨c, hc, rfl⟩
   ·rw [e0]
    have hk := h.may d hd
    simp only [mayB, longOk, Bool.and_eq_true, Bool.or_eq_true, beq_iff_eq, decide_eq_true_eq] at hk
    have : (0 == d.x.kind) = false := by simp; omega
    simp [meetsB, this]
   ·obtain ⟨c, hcc, rfl⟩ := List.mem_map.1 hc
    have hc := hcc
    rw [rdropG_j, hx c hc]
    have := List.any_eq_false.1 hb c hc
    simpa using this
 ·unfold dropR
  rw [if_pos hi]
end
end Ca
end Go.Proofs.YtbhpafgoofkkmaaGreatDoor
namespace Go.Proofs.YtbhpafgoofkkmaaGreatDoor
open Go.RowKit
namespace Ca
structure Bad (L : List Ce) (root : Int) (bad : List Int) : Prop where
 head : root ∈ bad
 nd : bad.Nodup
 cl : ∀ c ∈ L, c.ob ∈ bad → c.no ∈ bad
 sub : ∀ b ∈ bad, b = root ∨ ∃ c ∈ L, c.no = b ∧ c.ob ∈ bad
def rrevL (L : List Ce) (root : Int) (bad : List Int) : List Ce := L.filter (fun c => c.no == root || !bad.contains c.no)
section
variable {T : Tab} {L : List Ce} {last : Int}
theorem Rel.revF (h : Rel T L last) {d : Ce} (hd : d ∈ L) : ∀ i, ∀ q ∈ (revS T (d.env, d.slot) i).2, ∃ c ∈ L, q = (c.env, c.slot) ∧ d.no ≤ c.no
 | 0 => by
  intro q hq
  simp only [revS, List.mem_singleton] at hq
  exact ⟨d, hd, hq, Int.le_refl _⟩
 | i + 1 => by
  have ih := h.revF hd i
  have hk := revK T (d.env, d.slot) (h.slot hd) i
  intro q hq
  cases hqi : (revS T (d.env, d.slot) i).2[i]? with
  | none =>
   have e : revS T (d.env, d.slot) (i + 1) = revS T (d.env, d.slot) i := by simp only [revS, hqi]
   rw [e] at hq
   exact ih q hq
  | some q0 =>
   have e : revS T (d.env, d.slot) (i + 1) = (clTo (revS T (d.env, d.slot) i).1 q0.1 q0.2 768, (revS T (d.env, d.slot) i).2 ++ madeTo (revS T (d.env, d.slot) i).1 q0.1 q0.2 768) := by simp only [revS, hqi]
   rw [e] at hq
   rcases List.mem_append.1 hq with hq | hq
   ·exact ih q hq
   ·have hq2 := hq
    simp only [madeTo, List.mem_map, List.mem_filter, List.mem_range] at hq2
    obtain ⟨j, ⟨hj, ho⟩, rfl⟩ := hq2
    have hq0 : q0 ∈ (revS T (d.env, d.slot) i).2 := List.mem_of_getElem? hqi
    obtain ⟨c, hc, e1, e2⟩ := ih q0 hq0
    have hT : (revS T (d.env, d.slot) i).1 j = T j := by
     rcases hk.tab j hj with e3 | ⟨e3, _⟩
     ·exact e3
     ·rw [e3, ofB_no q0 (hk.pos q0 hq0)] at ho
      cases ho
    rw [hT] at ho
    rcases h.full j hj with e3 | ⟨c', hc', e3⟩
    ·rw [e3, ofB_no q0 (hk.pos q0 hq0)] at ho
     cases ho
    ·subst e3
     have ho2 := ofB_iff.1 ho
     rw [e1] at ho2
     refine ⟨c', hc', h.pj hc', ?_⟩
     rcases h.par c' hc' with ⟨_, _, h3⟩ | ⟨p, hp, _, h2, h3, h4⟩
     ·exact absurd (ho2.2.symm.trans h3) (h.slot hc)
     ·have : p = c := h.jj hp hc (h3.symm.trans ho2.1) (h4.symm.trans ho2.2)
      rw [this] at h2
      omega
theorem Rel.revRoot (h : Rel T L last) {d : Ce} (hd : d ∈ L) {q : Int × Int} (hq : ∃ c ∈ L, q = (c.env, c.slot) ∧ d.no ≤ c.no) : ofB (T d.j) q.1 q.2 = false := by
 cases ho : ofB (T d.j) q.1 q.2 with
 | false => rfl
 | true =>
  exfalso
  obtain ⟨c, hc, rfl, hle⟩ := hq
  have ho2 := ofB_iff.1 ho
  rcases h.par d hd with ⟨_, _, h3⟩ | ⟨p, hp, _, h2, h3, h4⟩
  ·exact absurd (ho2.2.symm.trans h3) (h.slot hc)
  ·have : p = c := h.jj hp hc (h3.symm.trans ho2.1) (h4.symm.trans ho2.2)
   rw [this] at h2
   omega
theorem madeTo_nodup (T : Tab) (pe ps : Int) (k : Nat) : (madeTo T pe ps k).Nodup := by
 unfold madeTo List.Nodup
 rw [List.pairwise_map]
 refine List.Pairwise.imp (R := fun a b => a ≠ b) (fun hne e => hne (plOf_inj e)) ?_
 exact List.Nodup.sublist List.filter_sublist List.nodup_range
theorem Rel.revNd (h : Rel T L last) {d : Ce} (hd : d ∈ L) : ∀ i, (revS T (d.env, d.slot) i).2.Nodup
 | 0 => by simp [revS]
 | i + 1 => by
  have ih := h.revNd hd i
  have hk := revK T (d.env, d.slot) (h.slot hd) i
  have hF := h.revF hd i
  cases hqi : (revS T (d.env, d.slot) i).2[i]? with
  | none =>
   have e : revS T (d.env, d.slot) (i + 1) = revS T (d.env, d.slot) i := by simp only [revS, hqi]
   rw [e]
   exact ih
  | some q0 =>
   have e : revS T (d.env, d.slot) (i + 1) = (clTo (revS T (d.env, d.slot) i).1 q0.1 q0.2 768, (revS T (d.env, d.slot) i).2 ++ madeTo (revS T (d.env, d.slot) i).1 q0.1 q0.2 768) := by simp only [revS, hqi]
   rw [e]
   show ((revS T (d.env, d.slot) i).2 ++ madeTo (revS T (d.env, d.slot) i).1 q0.1 q0.2 768).Nodup
   have hq0 : q0 ∈ (revS T (d.env, d.slot) i).2 := List.mem_of_getElem? hqi
   rw [List.nodup_append]
   refine ⟨ih, madeTo_nodup _ _ _ _, fun a ha b hb e2 => ?_⟩
   subst e2
   have hb2 := hb
   simp only [madeTo, List.mem_map, List.mem_filter, List.mem_range] at hb2
   obtain ⟨j, ⟨hj, ho⟩, rfl⟩ := hb2
   rcases hk.mem _ ha with e3 | ⟨j', hj', e3, e4, _⟩
   ·have hjd : j = d.j := plOf_inj (e3.trans (h.pj hd).symm)
    subst hjd
    have hT : (revS T (d.env, d.slot) i).1 d.j = T d.j := by
     rcases hk.tab d.j hj with e5 | ⟨e5, _⟩
     ·exact e5
     ·rw [e5, ofB_no q0 (hk.pos q0 hq0)] at ho
      cases ho
    rw [hT, h.revRoot hd (hF q0 hq0)] at ho
    cases ho
   ·rw [plOf_inj e3, e4, ofB_no q0 (hk.pos q0 hq0)] at ho
    cases ho
theorem Rel.revMem (h : Rel T L last) {d : Ce} (hd : d ∈ L) {T' : Tab} {F : List (Int × Int)} (hr : RevEnd T (d.env, d.slot) T' F) {bad : List Int} (hb : Bad L d.no bad) :
  ∀ (N : Nat) (c : Ce), c ∈ L → c.no < (N : Int) → (c.no ∈ bad ↔ (c.env, c.slot) ∈ F)
 | 0, c, hc, hN => by
  have := h.no c hc
  omega
 | N + 1, c, hc, hN => by
  have ih := h.revMem hd hr hb N
  constructor
  ·intro hm
   rcases hb.sub _ hm with e | ⟨c', hc', e, hob⟩
   ·have : c = d := h.nn hc hd e
    rw [this]
    exact hr.root
   ·have : c' = c := h.nn hc' hc e
    subst this
    rcases h.par c' hc with ⟨h1, _, _⟩ | ⟨p, hp, h1, h2, h3, h4⟩
    ·rw [h1] at hob
     exfalso
     rcases hb.sub _ hob with e0 | ⟨c0, hc0, e0, _⟩
     ·have := (h.no d hd).1
      omega
     ·have := (h.no c0 hc0).1
      omega
    ·rw [h1] at hob
     have hpF := (ih p hp (by omega)).1 hob
     have hdone := hr.done _ hpF c'.j (h.lt hc)
     rcases hr.tab c'.j (h.lt hc) with e1 | ⟨_, e2, _⟩
     ·rw [e1, ofB_iff.2 ⟨h3, h4⟩] at hdone
      cases hdone
     ·rw [h.pj hc] at e2
      exact e2
  ·intro hF
   rcases hr.mem _ hF with e | ⟨j, hj, e, e1, e2⟩
   ·simp only [Prod.mk.injEq] at e
    have : c = d := h.jj hc hd e.1 e.2
    rw [this]
    exact hb.head
   ·have hjc : j = c.j := plOf_inj (e.symm.trans (h.pj hc).symm)
    subst hjc
    rcases hr.tab c.j hj with e3 | ⟨_, _, _, q, hq, ho⟩
    ·rw [← e3, e1] at e2
     exact absurd rfl e2
    ·have ho2 := ofB_iff.1 ho
     rcases h.par c hc with ⟨_, _, h3⟩ | ⟨p, hp, h1, h2, h3, h4⟩
     ·exact absurd h3 e2
     ·have hq2 : q = (p.env, p.slot) := Prod.ext (ho2.1.symm.trans h3) (ho2.2.symm.trans h4)
      rw [hq2] at hq
      exact hb.cl c hc (by rw [h1]; exact (ih p hp (by omega)).2 hq)
theorem Rel.rev (h : Rel T L last) {d : Ce} (hd : d ∈ L) (N : Nat) (hN : (revS T (d.env, d.slot) (N + 1)).2.length = N + 1) {bad : List Int} (hb : Bad L d.no bad) :
  bad.length = N + 1 ∧ Rel (revS T (d.env, d.slot) (N + 1)).1 (rrevL L d.no bad) last := by
 have hr := revEnd T (d.env, d.slot) (h.slot hd) (N + 1) hN
 have hF := h.revF hd (N + 1)
 have hnd := h.revNd hd (N + 1)
 generalize (revS T (d.env, d.slot) (N + 1)).1 = T' at *
 generalize (revS T (d.env, d.slot) (N + 1)).2 = F at *
 have same : ∀ c ∈ L, (c.no ∈ bad ↔ (c.env, c.slot) ∈ F) := fun c hc => h.revMem hd hr hb (c.no.toNat + 1) c hc (by have := (h.no c hc).1; omega)
 constructor
 ·rw [← hN]
  have p1 : ((L.filter (fun c => bad.contains c.no)).map Ce.no).Perm bad := by
   rw [List.perm_ext_iff_of_nodup (h.nos.sublist (List.filter_sublist.map _)) hb.nd]
   intro a
   simp only [List.mem_map, List.mem_filter, List.contains_iff_mem]
   constructor
   ·rintro ⟨c, ⟨_, hc⟩, rfl⟩
    exact hc
   ·intro ha
    rcases hb.sub a ha with e | ⟨c, hc, e, _⟩
    ·exact ⟨d, ⟨hd, by rw [← e]; exact ha⟩, e.symm⟩
    ·exact ⟨c, ⟨hc, by rw [e]; exact ha⟩, e⟩
  have p2 : ((L.filter (fun c => bad.contains c.no)).map (fun c => (c.env, c.slot))).Perm F := by
   have hnd2 : (L.map (fun c => (c.env, c.slot))).Nodup := by
    unfold List.Nodup
    rw [List.pairwise_map]
    have := h.pls
    unfold List.Nodup at this
    rw [List.pairwise_map] at this
    refine this.imp ?_
    intro a b hne e
    simp only [Prod.mk.injEq] at e
    exact hne (by show dropJ _ _ = dropJ _ _; rw [e.1, e.2])
   rw [List.perm_ext_iff_of_nodup (hnd2.sublist (List.filter_sublist.map _)) hnd]
   intro a
   simp only [List.mem_map, List.mem_filter, List.contains_iff_mem]
   constructor
   ·rintro ⟨c, ⟨hc, hm⟩, rfl⟩
    exact (same c hc).1 hm
   ·intro ha
    obtain ⟨c, hc, rfl, _⟩ := hF a ha
    exact ⟨c, ⟨hc, (same c hc).2 ha⟩, rfl⟩
  have l1 := p1.length_eq
  have l2 := p2.length_eq
  simp only [List.length_map] at l1 l2
  omega
 ·have mem : ∀ c, c ∈ rrevL L d.no bad ↔ c ∈ L ∧ (c = d ∨ c.no ∉ bad) := by
   intro c
   unfold rrevL
   rw [List.mem_filter]
   constructor
   ·rintro ⟨hc, hp⟩
    simp only [Bool.or_eq_true, beq_iff_eq, Bool.not_eq_true', ← Bool.not_eq_true, List.contains_iff_mem] at hp
    rcases hp with hp | hp
    ·exact ⟨hc, Or.inl (h.nn hc hd hp)⟩
    ·exact ⟨hc, Or.inr hp⟩
   ·rintro ⟨hc, hp⟩
    refine ⟨hc, ?_⟩
    simp only [Bool.or_eq_true, beq_iff_eq, Bool.not_eq_true', ← Bool.not_eq_true, List.contains_iff_mem]
    rcases hp with rfl | hp
    ·exact Or.inl rfl
    ·exact Or.inr hp
  have keep : ∀ c ∈ rrevL L d.no bad, T' c.j = T c.j := by
   intro c hc
   obtain ⟨hcL, hc2⟩ := (mem c).1 hc
   rcases hr.tab c.j (h.lt hcL) with e | ⟨_, e2, _, q, hq, ho⟩
   ·exact e
   ·exfalso
    rcases hc2 with rfl | hn
    ·rw [h.revRoot hd (hF q hq)] at ho
     cases ho
    ·rw [h.pj hcL] at e2
     exact hn ((same c hcL).2 e2)
  have hsl : (rrevL L d.no bad).Sublist L := List.filter_sublist
  refine ⟨fun c hc => h.may c ((mem c).1 hc).1, fun c hc => h.pl c ((mem c).1 hc).1, fun c hc => by rw [keep c hc]; exact h.tab c ((mem c).1 hc).1, fun c hc => h.no c ((mem c).1 hc).1, h.nos.sublist (hsl.map _), h.pls.sublist (hsl.map _), fun j hj => ?_, fun c hc => ?_⟩
  ·rcases h.full j hj with e0 | ⟨c, hc, rfl⟩
   ·left
    rcases hr.tab j hj with e | ⟨e, _⟩
    ·rw [e, e0]
    ·exact e
   ·by_cases hc2 : c = d ∨ c.no ∉ bad
    ·exact Or.inr ⟨c, (mem c).2 ⟨hc, hc2⟩, rfl⟩
    ·left
     have hcb : c.no ∈ bad := by
      apply Classical.byContradiction
      intro hn
      exact hc2 (Or.inr hn)
     rcases hr.mem _ ((same c hc).1 hcb) with e | ⟨j', hj', e, e1, _⟩
     ·simp only [Prod.mk.injEq] at e
      exact absurd (Or.inl (h.jj hc hd e.1 e.2)) hc2
     ·have : j' = c.j := plOf_inj (e.symm.trans (h.pj hc).symm)
      rw [← this]
      exact e1
  ·rw [keep c hc]
   obtain ⟨hcL, hc2⟩ := (mem c).1 hc
   rcases h.par c hcL with h1 | ⟨p, hp, h1, h2, h3, h4⟩
   ·exact Or.inl h1
   ·right
    refine ⟨p, (mem p).2 ⟨hp, ?_⟩, h1, h2, h3, h4⟩
    by_cases hpb : p.no ∈ bad
    ·left
     rcases hc2 with rfl | hn
     ·exfalso
      obtain ⟨p', hp', e, hle⟩ := hF _ ((same p hp).1 hpb)
      simp only [Prod.mk.injEq] at e
      have : p = p' := h.jj hp hp' e.1 e.2
      rw [this] at h2
      omega
     ·exact absurd (hb.cl c hcL (by rw [h1]; exact hpb)) hn
    ·exact Or.inr hpb
def rdropL (L : List Ce) (n s : Int) : List Ce := match L[rfind L n s]? with
 | none => L
 | some d => (L.take (rfind L n s) ++ L.drop (rfind L n s + 1)).map (rdropG d)
def rdropA (L : List Ce) (n s : Int) : Bool := match L[rfind L n s]? with
 | none => false
 | some d => !((L.take (rfind L n s) ++ L.drop (rfind L n s + 1)).any fun c => meetsB c.x d.x)
theorem rdrop_none {L : List Ce} {n s : Int} (h : rfindI L n s = -1) : rdropL L n s = L ∧ rdropA L n s = false := by
 have : L[rfind L n s]? = none := by
  rw [List.getElem?_eq_none]
  unfold rfindI at h
  split at h
  ·omega
  ·omega
 unfold rdropL rdropA
 rw [this]
 exact ⟨rfl, rfl⟩
theorem rdrop_some {L : List Ce} {n s : Int} {k : Nat} {d : Ce} (h : rfindI L n s = (k : Int)) (hd : L[k]? = some d) : rdropL L n s = (L.take k ++ L.drop (k + 1)).map (rdropG d) ∧ rdropA L n s = !((L.take k ++ L.drop (k + 1)).any fun c => meetsB c.x d.x) := by
 have hk : rfind L n s = k := by
  unfold rfindI at h
  split at h
  ·omega
  ·omega
 unfold rdropL rdropA
 rw [hk, hd]
 exact ⟨rfl, rfl⟩
theorem rdropL_len (L : List Ce) (n s : Int) : (rdropL L n s).length ≤ L.length := by
 unfold rdropL
 split
 ·exact Nat.le_refl _
 ·rw [List.length_map, List.length_append, List.length_take, List.length_drop]
  omega
theorem Rel.dropAny (h : Rel T L last) (n s : Int) : Rel (dropT T n s) (rdropL L n s) last ∧ dropB T n s = rdropA L n s ∧ dropR T n s = if rfindI L n s < 0 then 104 else 0 := by
 rcases h.find n s with ⟨e, hi⟩ | ⟨k, d, e, hd, rfl, rfl, hg, hi⟩
 ·obtain ⟨e1, e2⟩ := rdrop_none e
  rw [e1, e2]
  unfold dropT dropB dropR
  have hi2 : ¬ (getT T n s).is = true := by rw [hi]; simp
  have hlt : rfindI L n s < 0 := by omega
  rw [if_neg hi2, if_neg hi2, hi, if_pos hlt]
  exact ⟨h, rfl, rfl⟩
 ·obtain ⟨e1, e2⟩ := rdrop_some e hd
  rw [e1, e2, if_neg (by omega)]
  have h2 := h
  rw [split_at hd] at h2
  exact h2.drop
theorem hit_no (K I r : Int) : hitB Cp.no K I r = false := by
 simp only [hitB, coversB, Bool.and_eq_false_iff, decide_eq_false_iff_not]
 left
 by_cases h : (0 : Int) ≤ I
 ·right; omega
 ·left; right; exact h
theorem Rel.has (h : Rel T L last) (n K I r : Int) : hasB T n K I r = rhas L n K I r := by
 cases hb : rhas L n K I r with
 | true =>
  unfold rhas at hb
  obtain ⟨d, hd, hh⟩ := List.any_eq_true.1 hb
  simp only [Bool.and_eq_true, beq_iff_eq] at hh
  obtain ⟨rfl, hh⟩ := hh
  have hp := h.pl d hd
  obtain ⟨a, c, ea, ec, ha, hc⟩ := isP_nat hp
  have hE : isE d.env = true := by
   unfold isP at hp
   simp only [Bool.and_eq_true] at hp
   exact hp.1.1
  unfold hasB
  rw [hE, Bool.true_and]
  refine hasN_hit (s := c) hc ?_
  have e : d.env.toNat * 64 + c = d.j := by
   show _ = dropJ d.env d.slot
   rw [ea, ec]
   simp [dropJ]
  rw [e, h.tab d hd]
  exact hh
 | false =>
  unfold rhas at hb
  unfold hasB
  cases hE : isE n with
  | false => rfl
  | true =>
   rw [Bool.true_and]
   refine hasN_miss (fun s hs => ?_)
   have hn := hE
   simp [isE] at hn
   rcases h.full (n.toNat * 64 + s) (by omega) with e0 | ⟨d, hd, ed⟩
   ·rw [e0]
    exact hit_no K I r
   ·have hp := h.pj hd
    rw [ed, plOf_at hs] at hp
    simp only [Prod.mk.injEq] at hp
    rw [← ed, h.tab d hd]
    have := List.any_eq_false.1 hb d hd
    have hen : (d.env == n) = true := by simp; omega
    rw [hen] at this
    simpa using this
end
def insI (n : Int) : List Int → List Int
 | [] => [n]
 | a :: l => if a < n then a :: insI n l else if a = n then a :: l else n :: a :: l
def holdL (K I : Int) (L : List Ce) : List Int := L.foldl (fun l c => if hitB c.x K I 0 = true then insI c.env l else l) []
def Up (l : List Int) : Prop := l.Pairwise (· < ·)
theorem insI_mem (n : Int) : ∀ (l : List Int) (a : Int), a ∈ insI n l ↔ a = n ∨ a ∈ l
 | [], a => by simp [insI]
 | b :: l, a => by
  unfold insI
  split
  ·rw [List.mem_cons, insI_mem n l a, List.mem_cons]
   grind
  ·split
   ·rename_i e
    subst e
    simp
   ·simp
theorem insI_up (n : Int) : ∀ (l : List Int), Up l → Up (insI n l)
 | [], _ => by simp [insI, Up]
 | b :: l, h => by
  unfold Up at h
  rw [List.pairwise_cons] at h
  unfold insI
  split
  ·rename_i hb
   unfold Up
   rw [List.pairwise_cons]
   refine ⟨fun a ha => ?_, insI_up n l h.2⟩
   rcases (insI_mem n l a).1 ha with rfl | ha
   ·exact hb
   ·exact h.1 a ha
  ·split
   ·unfold Up
    rw [List.pairwise_cons]
    exact h
   ·unfold Up
    rw [List.pairwise_cons, List.pairwise_cons]
    refine ⟨fun a ha => ?_, h⟩
    rcases List.mem_cons.1 ha with rfl | ha
    ·omega
    ·have := h.1 a ha
     omega
theorem insI_len (n : Int) : ∀ (l : List Int), (insI n l).length ≤ l.length + 1
 | [] => by simp [insI]
 | b :: l => by
  unfold insI
  have := insI_len n l
  split
  ·simp; omega
  ·split
   ·simp
   ·simp
theorem hold_fold (K I : Int) : ∀ (L : List Ce) (l : List Int), Up l → Up (L.foldl (fun l c => if hitB c.x K I 0 = true then insI c.env l else l) l) ∧ (∀ a, a ∈ L.foldl (fun l c => if hitB c.x K I 0 = true then insI c.env l else l) l ↔ a ∈ l ∨ ∃ c ∈ L, c.env = a ∧ hitB c.x K I 0 = true)
 | [], l, h => ⟨h, fun a => by simp⟩
 | c :: L, l, h => by
  rw [List.foldl_cons]
  by_cases hc : hitB c.x K I 0 = true
  ·rw [if_pos hc]
   obtain ⟨h1, h2⟩ := hold_fold K I L _ (insI_up c.env l h)
   refine ⟨h1, fun a => ?_⟩
   rw [h2 a, insI_mem]
   grind
  ·rw [if_neg hc]
   obtain ⟨h1, h2⟩ := hold_fold K I L l h
   refine ⟨h1, fun a => ?_⟩
   rw [h2 a]
   grind
theorem up_eq {l m : List Int} (h1 : Up l) (h2 : Up m) (h : ∀ a, a ∈ l ↔ a ∈ m) : l = m := by
 have n1 : l.Nodup := h1.imp (fun hab => by omega)
 have n2 : m.Nodup := h2.imp (fun hab => by omega)
 have hp := (List.perm_ext_iff_of_nodup n1 n2).2 h
 exact hp.eq_of_pairwise (fun a b _ _ h1 h2 => by omega) h1 h2
theorem holdTo_up (T : Tab) (K I : Int) (k : Nat) : Up (holdTo T K I k) := by
 unfold holdTo Up
 rw [List.pairwise_map]
 refine List.Pairwise.imp (R := fun a b => a < b) (fun hab => by simpa using hab) ?_
 exact List.Pairwise.sublist List.filter_sublist List.pairwise_lt_range
theorem Rel.hold {T : Tab} {L : List Ce} {last : Int} (h : Rel T L last) (K I : Int) : holdTo T K I 12 = holdL K I L := by
 obtain ⟨h1, h2⟩ := hold_fold K I L [] (by simp [Up])
 refine up_eq (holdTo_up T K I 12) h1 (fun a => ?_)
 rw [show (a ∈ holdL K I L ↔ _) from h2 a]
 unfold holdTo
 rw [List.mem_map]
 have hh := fun n => h.has n K I 0
 unfold hasB rhas at hh
 constructor
 ·rintro ⟨m, hm, rfl⟩
  rw [List.mem_filter, List.mem_range] at hm
  right
  have e := hh (Int.ofNat m)
  have hE : isE (Int.ofNat m) = true := by simp [isE]; omega
  rw [hE, Bool.true_and, show (Int.ofNat m).toNat = m from rfl, hm.2] at e
  obtain ⟨c, hc, hc2⟩ := List.any_eq_true.1 e.symm
  simp only [Bool.and_eq_true, beq_iff_eq] at hc2
  exact ⟨c, hc, hc2.1, hc2.2⟩
 ·rintro (hf | ⟨c, hc, rfl, hc2⟩)
  ·simp at hf
  ·have e := hh c.env
   rw [List.any_eq_true.2 ⟨c, hc, by simp [hc2]⟩, Bool.and_eq_true] at e
   have hE := e.1
   simp [isE] at hE
   refine ⟨c.env.toNat, List.mem_filter.2 ⟨List.mem_range.2 (by omega), e.2⟩, ?_⟩
   show ((c.env.toNat : Nat) : Int) = c.env
   omega
end Ca
end Go.Proofs.YtbhpafgoofkkmaaGreatDoor
namespace Go.Proofs.YtbhpafgoofkkmaaGreatDoor
open Go.RowKit
namespace Ca
theorem run_append_zero {P : Program} (w : World) (t e : TypeId) (i : TypeInfo) (ht : P.underlying t = some (.slice e)) (hi : P.info? e = some i) (a b : Option Addr) (n c cap : Nat) (hle : n ≤ c) (ty : TypeId) :
  (Builtin.append_ #[t, t] ty #[.slice a n c, .slice b 0 cap]).run P w = .ok (.slice a n c) w := by
 cases a <;> cases b <;> simp [Builtin.append_, run_underlying ht, sizeOf, typeInfo, hi, Builtin.lenOf, Builtin.firstCells, loadCells, loadCellsFrom, hle, storeCells]
theorem ccells_set : ∀ (L : List Ce) (i : Nat) (d : Ce) (v : Int), L[i]? = some d → (ccells L).set (i * 8 + 1) (.int .i64 v) = ccells (L.set i ⟨d.no, v, d.env, d.slot, d.x⟩)
 | [], i, d, v, h => by simp at h
 | e :: L, i, d, v, h => by
  have e1 : ccells (e :: L) = ceRow e ++ ccells L := rfl
  cases i with
  | zero =>
   simp at h
   subst h
   rfl
  | succ i =>
   simp at h
   rw [e1, List.set_append, if_neg (by simp; omega)]
   have := ccells_set L i d v h
   have e2 : (i + 1) * 8 + 1 - (ceRow e).length = i * 8 + 1 := by simp; omega
   rw [e2, this]
   rfl
section
variable {M : Nat} {w w' : World} {c : Nat} {sv : Value} {L : List Ce} {last : Int}
theorem RefAt.setOb {g cap n : Nat} (h : RefAt M w c (.slice (some ⟨g, 0, none⟩) n cap) L last) {i : Nat} {d : Ce} (hd : L[i]? = some d) (v : Int) :
  RefAt M (w.setCell ⟨g, i * 8 + 1, none⟩ (.int .i64 v)) c (.slice (some ⟨g, 0, none⟩) n cap) (L.set i ⟨d.no, v, d.env, d.slot, d.x⟩) last := by
 have hcg : c ≠ g := by
  intro e
  exact h.apart (by rw [e]; rfl)
 have hlen : i < L.length := (List.getElem?_eq_some_iff.1 hd).1
 refine ⟨(Below.heap_setCell _ _ _ _ hcg).trans h.head, ?_, ?_⟩
 ·obtain ⟨h1, h2⟩ := h.own
  rw [List.length_set]
  refine ⟨by rw [ccells_len, List.length_set], ?_⟩
  rcases h2 with ⟨h2, _⟩ | ⟨g', cap', cur, e, hM, hh, q1, q2, q3, q4⟩
  ·cases h2
  ·right
   have e' := e
   simp only [Value.slice.injEq, Option.some.injEq, Addr.mk.injEq] at e'
   obtain ⟨⟨rfl, _⟩, _, rfl⟩ := e'
   refine ⟨g, cap, cur.setIfInBounds (i * 8 + 1) (.int .i64 v), e, hM, ?_, q1, q2, by simp [q3], ?_⟩
   ·rw [setCell_eq_setRow w g _ _ _ _ _ hh, setRow_heap w g _ _ _ _ hh]
   ·rw [← ccells_set L i d v hd, ← q4, Array.toList_setIfInBounds, List.take_set]
 ·intro e
  have := congrArg List.length e
  simp at this
  subst this
  simp at hlen
theorem RefAt.keepU {b : Nat} (h : RefAt M w c sv L last) (hu : Upd b w w') (hbc : b ≠ c) (hbM : b < M) : RefAt M w' c sv L last :=
 ⟨(hu.block _ h.lt (fun e => hbc e.symm)).trans h.head, ownsRow_at h.own (fun g hg => hu.block g (h.own.lt g hg).2 (fun e => by have := ownsRow_low h.own g hg; omega)), h.nil⟩
theorem RefAt.mono {M' : Nat} (h : RefAt M w c sv L last) (hM : M' ≤ M) : RefAt M' w c sv L last := ⟨h.head, ownsRow_mono h.own hM, h.nil⟩
end
theorem _root_.Go.Proofs.YtbhpafgoofkkmaaGreatDoor.Upd.far {c g o : Nat} {w w' : World} (h : Upd c w w') (hg : w.heap.size ≤ g) (v : Value) : Upd c w (w'.setCell ⟨g, o, none⟩ v) :=
 ⟨h.os, h.tape, h.output, by simpa [World.setCell] using h.size, fun k hk hb => (Below.heap_setCell _ _ _ _ (by show k ≠ g; omega)).trans (h.block k hk hb)⟩
def dTo (d : Ce) (R : List Ce) (i : Nat) : List Ce := (R.take i).map (rdropG d) ++ R.drop i
theorem dTo_len (d : Ce) (R : List Ce) (i : Nat) : (dTo d R i).length = R.length := by
 unfold dTo
 rw [List.length_append, List.length_map, List.length_take, List.length_drop]
 omega
theorem dTo_zero (d : Ce) (R : List Ce) : dTo d R 0 = R := by simp [dTo]
theorem dTo_all (d : Ce) (R : List Ce) : dTo d R R.length = R.map (rdropG d) := by simp [dTo]
theorem dTo_step {d : Ce} {R : List Ce} {i : Nat} {e : Ce} (he : R[i]? = some e) : (dTo d R i)[i]? = some e ∧ (dTo d R i).set i (rdropG d e) = dTo d R (i + 1) := by
 obtain ⟨hi, rfl⟩ := List.getElem?_eq_some_iff.1 he
 have hl : ((R.take i).map (rdropG d)).length = i := by simp; omega
 have h2 : R.drop i = R[i] :: R.drop (i + 1) := by simp
 have h3 : R.take (i + 1) = R.take i ++ [R[i]] := by simp
 unfold dTo
 constructor
 ·rw [List.getElem?_append_right (by omega), hl, h2]
  simp
 ·rw [List.set_append, if_neg (by omega), hl, h2, h3, List.map_append, Nat.sub_self]
  simp only [List.set_cons_zero, List.map_cons, List.map_nil, List.append_assoc, List.cons_append, List.nil_append]
theorem dTo_hit {d : Ce} {R : List Ce} {i : Nat} {e : Ce} (he : R[i]? = some e) (ho : e.ob = d.no) : (dTo d R i).set i ⟨e.no, d.ob, e.env, e.slot, e.x⟩ = dTo d R (i + 1) := by
 have h := (dTo_step (d := d) he).2
 unfold rdropG at h
 rw [if_pos ho] at h
 exact h
theorem dTo_miss {d : Ce} {R : List Ce} {i : Nat} {e : Ce} (he : R[i]? = some e) (ho : e.ob ≠ d.no) : dTo d R i = dTo d R (i + 1) := by
 have h := dTo_step (d := d) he
 have h2 := h.2
 unfold rdropG at h2
 rw [if_neg ho] at h2
 rw [← h2]
 obtain ⟨hi, h3⟩ := List.getElem?_eq_some_iff.1 h.1
 have h4 := List.set_getElem_self hi
 rw [h3] at h4
 exact h4.symm
def mTo (d : Ce) (R : List Ce) (i : Nat) : Bool := !((R.take i).any fun c => meetsB c.x d.x)
theorem mTo_step {d : Ce} {R : List Ce} {i : Nat} {e : Ce} (he : R[i]? = some e) : mTo d R (i + 1) = (mTo d R i && !meetsB e.x d.x) := by
 obtain ⟨hi, rfl⟩ := List.getElem?_eq_some_iff.1 he
 have h3 : R.take (i + 1) = R.take i ++ [R[i]] := by simp
 unfold mTo
 rw [h3, List.any_append]
 simp
theorem rdrop_no (M c : Nat) (sv : Value) (L : List Ce) (last n s : Int) (w : World) (h : RefAt M w c sv L last) (hl : L.length ≤ 900) (hf : rfindI L n s = -1) :
  Calls Tryz.prog 150 #[.pointer (some ⟨c, 0, none⟩), .int .i64 n, .int .i64 s] w fun e w' => e = .returned (.tuple #[.bool false, .int .i64 104]) ∧ w' = w := by
 have hfa := find_at M c sv L last n s w h (by omega)
 rw [hf] at hfa
 clear h hf
 go_enter Tryz.func150, Tryz.ntmps150
 go_wp2_with (go_at_call 106; refine hfa.mono ?_; rintro e w1 ⟨rfl, hw1⟩; rw [hw1]; clear hw1 w1)
 go_ret2
 exact ⟨rfl, rfl⟩
end Ca
end Go.Proofs.YtbhpafgoofkkmaaGreatDoor
namespace Go.Proofs.YtbhpafgoofkkmaaGreatDoor
open Go.RowKit
namespace Ca
abbrev ceCells (d : Ce) : Array Value := #[.int .i64 d.no, .int .i64 d.ob, .int .i64 d.env, .int .i64 d.slot, .int .i64 d.x.kind, .int .i64 d.x.id, .int .i64 d.x.len, .int .i64 d.x.rights]
theorem ce_cells {w : World} {g : Nat} {d : Ce} {t : TypeId} (h : w.heap[g]? = some (.cells (ceCells d) t)) :
  (w.cell? ⟨g, 0, none⟩ = some (.int .i64 d.no) ∧ w.cell? ⟨g, 1, none⟩ = some (.int .i64 d.ob)) ∧ w.cell? ⟨g, 4, none⟩ = some (.int .i64 d.x.kind) ∧ w.cell? ⟨g, 5, none⟩ = some (.int .i64 d.x.id) ∧ w.cell? ⟨g, 6, none⟩ = some (.int .i64 d.x.len) := by
 refine ⟨⟨?_, ?_⟩, ?_, ?_, ?_⟩ <;> (rw [cell_of_heap h]; rfl)
theorem RefAt.laid {M c : Nat} {w W w4 : World} {sv v : Value} {L R : List Ce} {last : Int} (h : RefAt M W c sv L last) (hc : c < W.heap.size) (B4 : Below W.heap.size W w4) (hown : w4.ownsRow W.heap.size 107 8 v R.length (ccells R)) (hnil : R = [] → v = .slice none 0 0) :
  RefAt W.heap.size (w4.setCell ⟨c, 0, none⟩ v) c v R last := by
 refine ⟨head0 ((B4.block c hc).trans h.head) _, ownsRow_at hown (fun g hg => Below.heap_setCell _ _ _ _ ?_), hnil⟩
 have := ownsRow_low hown g hg
 show g ≠ c
 omega
theorem addN (g o j : Nat) : (⟨g, o, none⟩ : Addr).add j = ⟨g, o + j, none⟩ := by unfold Addr.add; split <;> simp_all
theorem wrap8k (a : Int) (h0 : 0 ≤ a) (h : a ≤ 65535) : IntKind.i64.wrap a = a := by
 simp [IntKind.wrap, IntKind.bits, IntKind.signed]
 omega
theorem own_le {w : World} {base : Nat} {e : TypeId} {size g n cap : Nat} {xs : List Value} (h : w.ownsRow base e size (.slice (some ⟨g, 0, none⟩) n cap) n xs) : n ≤ cap := by
 rcases h.2 with ⟨e2, _⟩ | ⟨g', cap', cur, e2, _, _, q, _⟩
 ·cases e2
 ·simp only [Value.slice.injEq] at e2
  omega
theorem elemC : Tryz.prog.elem 102 = 107 := by kernel_rfl
set_option maxRecDepth 100000 in
theorem cut_h (g len cap k : Nat) (hk : k ≤ cap) (V : World) : (Instr.slice 102 (.slice (some ⟨g, 0, none⟩) len cap) none (some (.int .i64 k)) none).run Tryz.prog V = .ok (.slice (some ⟨g, 0, none⟩) k cap) V := by
 obtain ⟨i0, hi0, hzz⟩ := Option.map_eq_some_iff.1 ceInfo
 have hk0 : (k : Int) ≤ (cap : Int) := by omega
 rw [run_slice_h V 102 _ _ _ Tryz.underlying102 _ _ (by omega) hk0]
 simp [sizeOf, typeInfo, elemC, hi0, sliced, Addr.add]
set_option maxRecDepth 100000 in
theorem cut_l (g len cap k : Nat) (hk : k + 1 ≤ len) (V : World) : (Instr.slice 102 (.slice (some ⟨g, 0, none⟩) len cap) (some (.int .i64 ((k : Int) + 1))) none none).run Tryz.prog V = .ok (.slice (some (if cap = k + 1 then ⟨g, 0, none⟩ else ⟨g, (k + 1) * 8, none⟩)) (len - (k + 1)) (cap - (k + 1))) V := by
 obtain ⟨i0, hi0, hzz⟩ := Option.map_eq_some_iff.1 ceInfo
 simp only [Prod.mk.injEq] at hzz
 have hk0 : (k : Int) + 1 ≤ (len : Int) := by omega
 have e : ((k : Int) + 1).toNat = k + 1 := by omega
 rw [run_slice_l V 102 _ _ _ Tryz.underlying102 _ _ (by omega) hk0]
 simp only [sizeOf, typeInfo, elemC, sliced, e, Sem.run_bind, Sem.run_pure]
 by_cases h : cap = k + 1
 ·simp [h, hi0]
 ·simp [h, hi0, Addr.add, hzz.2.1]
set_option maxRecDepth 100000 in
set_option maxHeartbeats 8000000 in
theorem rdrop_yes (M c : Nat) (sv : Value) (L : List Ce) (last n s : Int) (k : Nat) (d : Ce) (w : World) (h : RefAt M w c sv L last) (hM : M ≤ w.heap.size) (hl : L.length ≤ 900) (hS : RSanes L) (hf : rfindI L n s = (k : Int)) (hd : L[k]? = some d) :
  Calls Tryz.prog 150 #[.pointer (some ⟨c, 0, none⟩), .int .i64 n, .int .i64 s] w fun e w' => e = .returned (.tuple #[.bool (!((L.take k ++ L.drop (k + 1)).any fun c => meetsB c.x d.x)), .int .i64 0]) ∧ ∃ sv', RefAt M w' c sv' ((L.take k ++ L.drop (k + 1)).map (rdropG d)) last ∧ Upd c w w' := by
 obtain ⟨i0, hi0, hzz⟩ := Option.map_eq_some_iff.1 ceInfo
 simp only [Prod.mk.injEq] at hzz
 obtain ⟨hz0, hz1, hz2⟩ := hzz
 have hfa := find_at M c sv L last n s w h (by omega)
 rw [hf] at hfa
 obtain ⟨g, cap, hsv, ⟨⟨d0, d1, d2, d3⟩, d4, d5, d6, d7⟩⟩ := h.at hd
 have c0 := h.c0
 have hkl : k < L.length := (List.getElem?_eq_some_iff.1 hd).1
 have hki : (k : Int) < (L.length : Int) := by omega
 have hcap : L.length ≤ cap := by
  rcases h.own.2 with ⟨_, e3⟩ | ⟨g', cap', cur, e2, _, _, q1, _⟩
  ·omega
  ·rw [hsv] at e2
   simp only [Value.slice.injEq] at e2
   omega
 have hlt := h.lt
 have hil : (L.length : Int) ≤ 900 := by omega
 obtain ⟨W, hW⟩ : ∃ W, W = w.alloc (.cells (ceCells d) 107) := ⟨_, rfl⟩
 have hbW : Below w.heap.size w W := by rw [hW]; exact below_alloc _ _
 have hRW := h.below hbW
 have HB : Hid _ := hbW
 have HRW : Hid _ := hRW
 have hcW := hRW.lt
 have HBX : Hid (W.heap[w.heap.size]? = some (.cells (ceCells d) 107)) := by rw [hW]; exact heap_alloc_new _ _
 have hwW : w.heap.size < W.heap.size := lt_of_heap HBX.out
 have hfz : W.frozen? ⟨c, 0, none⟩ = false := frozen_of_heap hRW.head
 have hW0 := hRW.c0
 have HSd : Hid (Sane d.x) := hS d (List.mem_of_getElem? hd)
 have HSR : Hid (∀ e ∈ L.take k ++ L.drop (k + 1), Sane e.x) := by
  intro e he
  refine hS e ?_
  rcases List.mem_append.1 he with he | he
  ·exact List.mem_of_mem_take he
  ·exact List.mem_of_mem_drop he
 have HRL : Hid ((L.take k ++ L.drop (k + 1)).length ≤ 900) := by
  show (L.take k ++ L.drop (k + 1)).length ≤ 900
  rw [List.length_append, List.length_take, List.length_drop]
  omega
 have N1 : Hid (∀ j u, (ccells L)[j]? = some u → W.cell? ((⟨g, 0, none⟩ : Addr).add j) = some u) := by
  have := hRW.own
  rw [hsv] at this
  exact own_news8 this
 have HW : Hid _ := hW
 rw [hW] at hW0 hfz
 clear hW
 subst hsv
 have hs1 := cut_h g L.length cap k (by omega)
 have hs2 := cut_l g L.length cap k (by omega)
 have HA2 : Hid (k + 1 < L.length → (if cap = k + 1 then (⟨g, 0, none⟩ : Addr) else ⟨g, (k + 1) * 8, none⟩) = ⟨g, (k + 1) * 8, none⟩) := fun hk1 => if_neg (by omega)
 generalize (if cap = k + 1 then (⟨g, 0, none⟩ : Addr) else ⟨g, (k + 1) * 8, none⟩) = a2 at *
 have HD : Hid _ := hd
 clear hd hf hS h hRW hbW
 obtain ⟨R, hR⟩ : ∃ R, R = L.take k ++ L.drop (k + 1) := ⟨_, rfl⟩
 rw [← hR] at HSR HRL ⊢
 have HR : Hid _ := hR
 clear hR
 obtain ⟨no, ob, env, slot, ⟨x0, x1, x2, x3⟩⟩ := d
 dsimp only at *
 go_enter Tryz.func150, Tryz.ntmps150
 go_wp2_with fail
 refine hfa.mono ?_
 rintro e w1 ⟨rfl, hw1⟩
 rw [hw1]
 clear hw1 w1 hfa
 go_upto_region 5 with fail
 rw [← HW.out]
 have hfzW : W.frozen? ⟨c, 0, none⟩ = false := frozen_of_heap HRW.out.head
 have hcW0 := HRW.out.c0
 clear hfz hW0 d0 d1 d2 d3 d4 d5 d6 d7 c0
 go_cut [] (fun wc => ∃ sv1, RefAt W.heap.size wc c sv1 R last ∧ Upd c w wc ∧ wc.heap[w.heap.size]? = some (.cells (ceCells ⟨no, ob, env, slot, ⟨x0, x1, x2, x3⟩⟩) 107))
 case first =>
  have HLen : Hid ((ccells (L.take k)).length = k * 8) := by
   show (ccells (L.take k)).length = k * 8
   rw [ccells_len, List.length_take]
   omega
  have HLen2 : Hid ((ccells (L.drop (k + 1))).length = (L.length - (k + 1)) * 8) := by
   show (ccells (L.drop (k + 1))).length = (L.length - (k + 1)) * 8
   rw [ccells_len, List.length_drop]
  have HO1 : Hid (∀ u ∈ ccells (L.take k), u.oneCell' = true) := ccells_one _
  have HO2 : Hid (∀ u ∈ ccells (L.drop (k + 1)), u.oneCell' = true) := ccells_one _
  have HE : Hid (ccells L = ccells (L.take k) ++ (ceRow ⟨no, ob, env, slot, ⟨x0, x1, x2, x3⟩⟩ ++ ccells (L.drop (k + 1)))) := by
   show ccells L = _
   conv => lhs; rw [split_at HD.out]
   rw [ccells_app]
   rfl
  have NA : Hid (∀ j u, (ccells (L.take k))[j]? = some u → W.cell? ((⟨g, 0, none⟩ : Addr).add j) = some u) := by
   intro j u hu
   refine N1.out j u ?_
   rw [HE.out, List.getElem?_append_left ((List.getElem?_eq_some_iff.1 hu).1)]
   exact hu
  have NB : Hid (k + 1 < L.length → ∀ j u, (ccells (L.drop (k + 1)))[j]? = some u → W.cell? (a2.add j) = some u) := by
   intro hk1 j u hu
   have := N1.out ((k + 1) * 8 + j) u (by
     rw [HE.out, List.getElem?_append_right (by rw [HLen.out]; omega), HLen.out, List.getElem?_append_right (by simp; omega)]
     rw [← hu]
     congr 1
     simp
     omega)
   rw [HA2.out hk1]
   rw [addN, Nat.zero_add] at this
   rw [addN]
   exact this
  have hgW : g < W.heap.size := by
   have := HRW.out.own
   exact (this.lt g rfl).2
  have ha2 : k + 1 < L.length → a2.block < W.heap.size := by
   intro hk1
   rw [HA2.out hk1]
   exact hgW
  clear HE N1 HA2
  have HRLn : Hid (R.length = k + (L.length - (k + 1))) := by
   rw [HR.out]
   show (L.take k ++ L.drop (k + 1)).length = _
   rw [List.length_append, List.length_take, List.length_drop]
   omega
  have HRC : Hid (ccells R = ccells (L.take k) ++ ccells (L.drop (k + 1))) := by
   rw [HR.out]
   exact ccells_app _ _
  have fin : ∀ (w4 : World) (v : Value), Below W.heap.size W w4 → w4.ownsRow W.heap.size 107 8 v R.length (ccells R) → (R = [] → v = .slice none 0 0) → ∃ sv1, RefAt W.heap.size (w4.setCell ⟨c, 0, none⟩ v) c sv1 R last ∧ Upd c w (w4.setCell ⟨c, 0, none⟩ v) ∧ (w4.setCell ⟨c, 0, none⟩ v).heap[w.heap.size]? = some (.cells (ceCells ⟨no, ob, env, slot, ⟨x0, x1, x2, x3⟩⟩) 107) := by
   intro w4 v B4 ho hn
   refine ⟨v, HRW.out.laid (w := w) hcW B4 ho hn, ((Upd.of_below HB.out).trans (Upd.of_below B4)).trans (Upd.setCell _ _ _ _), ?_⟩
   rw [Below.heap_setCell _ _ _ _ (by show w.heap.size ≠ c; omega)]
   exact (B4.block _ hwW).trans HBX.out
  have hwr : IntKind.i64.wrap ((k : Int) + 1) = (k : Int) + 1 := wrap8k _ (by omega) (by omega)
  by_cases hk0 : k = 0
  ·have HZ1 : Hid (∀ ty, (Builtin.append_ #[102, 102] ty #[.slice none 0 0, .slice (some ⟨g, 0, none⟩) k cap]).run Tryz.prog W.drew = .ok (.slice none 0 0) W.drew) := by
    intro ty
    rw [hk0]
    exact run_append_none _ _ _ i0 Tryz.underlying102 hi0 (some ⟨g, 0, none⟩) cap ty
   have HK0 : Hid _ := hk0
   clear hk0
   by_cases hk1 : k + 1 < L.length
   ·go_region_law (first
      | (refine step_append_eq rfl (.const (.slice none 0 0)) (.tmp 32) 102 rfl (.slice none 0 0) (.slice (some ⟨g, 0, none⟩) k cap) (.slice none 0 0) rfl (by rfl) HZ1.out ?_)
      | (refine step_append_lies _ (by rfl) (.tmp 33) (.tmp 40) _ (by rfl) W.heap.size 107 i0 _ 8 64 Tryz.underlying102 hi0 hz0 hz1 hz2 rfl (by omega) (.slice none 0 0) 0 [] (by rfl) (World.ownsRow_nil _ _ _ _)
          a2 (L.length - (k + 1)) (cap - (k + 1)) (ccells (L.drop (k + 1))) (by rfl) HLen2.out (fun j u hu => NB.out hk1 j u hu) HO2.out
          (by omega) (by unfold maxLen; omega) (by omega) (Nat.le_refl _) _ rfl ?_; intro g2 cap2 w4 hown4 hgrow4 hat4 hlt4; have B4 : Below W.heap.size W w4 := (Below.refl W.heap.size W).drew.trans (below_grown (v := .slice none 0 0) (w := W.drew) hgrow4 (Nat.le_refl _) (fun g hg => by simp [Value.ownBlock] at hg)); have hcw := B4.cell (p := ⟨c, 0, none⟩) hcW; have hfw := B4.frozen (p := ⟨c, 0, none⟩) hcW))
    all_goals
     go_wp2_with fail
     go_meet
     case rel =>
      refine fin w4 _ B4 ?_ ?_
      ·have e0 : L.take k = [] := by rw [HK0.out]; rfl
       rw [show R.length = L.length - (k + 1) by have := HRLn.out; have := HK0.out; omega, show ccells R = ccells (L.drop (k + 1)) by rw [HRC.out, e0]; rfl]
       simpa only [Nat.zero_add, List.nil_append] using hown4
      ·intro e
       have := HRLn.out
       rw [e] at this
       simp at this
       omega
   ·have HZ2 : Hid (∀ ty, (Builtin.append_ #[102, 102] ty #[.slice none 0 0, .slice (some a2) (L.length - (k + 1)) (cap - (k + 1))]).run Tryz.prog W.drew = .ok (.slice none 0 0) W.drew) := by
     intro ty
     rw [show L.length - (k + 1) = 0 by omega]
     exact run_append_none _ _ _ i0 Tryz.underlying102 hi0 (some a2) _ ty
    go_region_law (first
      | (refine step_append_eq rfl (.const (.slice none 0 0)) (.tmp 32) 102 rfl (.slice none 0 0) (.slice (some ⟨g, 0, none⟩) k cap) (.slice none 0 0) rfl (by rfl) HZ1.out ?_)
      | (refine step_append_eq rfl (.tmp 33) (.tmp 40) 102 rfl (.slice none 0 0) (.slice (some a2) (L.length - (k + 1)) (cap - (k + 1))) (.slice none 0 0) rfl (by rfl) HZ2.out ?_))
    all_goals
     go_wp2_with fail
     go_meet
     case rel =>
      have hR0 : R = [] := List.eq_nil_of_length_eq_zero (by have := HRLn.out; have := HK0.out; omega)
      refine fin W.drew _ (Below.refl _ _).drew ?_ (fun _ => rfl)
      rw [hR0]
      exact World.ownsRow_nil _ _ _ _
  ·by_cases hk1 : k + 1 < L.length
   ·go_region_law (first
      | (refine step_append_lies _ (by rfl) (.const (.slice none 0 0)) (.tmp 32) _ (by rfl) W.heap.size 107 i0 _ 8 64 Tryz.underlying102 hi0 hz0 hz1 hz2 rfl (by omega) (.slice none 0 0) 0 [] (by rfl) (World.ownsRow_nil _ _ _ _)
          ⟨g, 0, none⟩ k cap (ccells (L.take k)) (by rfl) HLen.out (fun j u hu => NA.out j u hu) HO1.out
          (by omega) (by unfold maxLen; omega) (by omega) (Nat.le_refl _) _ rfl ?_; intro g1 cap1 w3 hown3 hgrow3 hat3 hlt3; simp only [Nat.zero_add, List.nil_append] at hown3; have B3 : Below W.heap.size W w3 := (Below.refl W.heap.size W).drew.trans (below_grown (v := .slice none 0 0) (w := W.drew) hgrow3 (Nat.le_refl _) (fun g hg => by simp [Value.ownBlock] at hg)); have hc3 := (B3.cell (p := ⟨c, 0, none⟩) hcW).trans hcW0)
      | (refine step_append_lies _ (by rfl) (.tmp 33) (.tmp 40) _ (by rfl) W.heap.size 107 i0 _ 8 64 Tryz.underlying102 hi0 hz0 hz1 hz2 rfl (by omega) (.slice (some ⟨g1, 0, none⟩) k cap1) k (ccells (L.take k)) (by rfl) hown3
          a2 (L.length - (k + 1)) (cap - (k + 1)) (ccells (L.drop (k + 1))) (by rfl) HLen2.out (fun j u hu => (B3.cell (cell_lt (NB.out hk1 j u hu))).trans (NB.out hk1 j u hu)) HO2.out
          (by omega) (by unfold maxLen; omega) (by omega) B3.size _ rfl ?_; intro g2 cap2 w4 hown4 hgrow4 hat4 hlt4; have B4 : Below W.heap.size W w4 := B3.trans (below_grown (v := .slice (some ⟨g1, 0, none⟩) k cap1) hgrow4 B3.size (ownsRow_low hown3)); have hcw := B4.cell (p := ⟨c, 0, none⟩) hcW; have hfw := B4.frozen (p := ⟨c, 0, none⟩) hcW))
    all_goals
     go_wp2_with fail
     go_meet
     case rel =>
      refine fin w4 _ B4 ?_ ?_
      ·rw [HRC.out, HRLn.out]
       exact hown4
      ·intro e
       have := HRLn.out
       rw [e] at this
       simp at this
       omega
   ·have HZ3 : Hid (∀ (V : World) (g1 cap1 : Nat), k ≤ cap1 → ∀ ty, (Builtin.append_ #[102, 102] ty #[.slice (some ⟨g1, 0, none⟩) k cap1, .slice (some a2) (L.length - (k + 1)) (cap - (k + 1))]).run Tryz.prog V = .ok (.slice (some ⟨g1, 0, none⟩) k cap1) V) := by
     intro V g1 cap1 hle ty
     rw [show L.length - (k + 1) = 0 by omega]
     exact run_append_zero V _ _ i0 Tryz.underlying102 hi0 _ _ _ _ _ hle ty
    go_region_law (first
      | (refine step_append_lies _ (by rfl) (.const (.slice none 0 0)) (.tmp 32) _ (by rfl) W.heap.size 107 i0 _ 8 64 Tryz.underlying102 hi0 hz0 hz1 hz2 rfl (by omega) (.slice none 0 0) 0 [] (by rfl) (World.ownsRow_nil _ _ _ _)
          ⟨g, 0, none⟩ k cap (ccells (L.take k)) (by rfl) HLen.out (fun j u hu => NA.out j u hu) HO1.out
          (by omega) (by unfold maxLen; omega) (by omega) (Nat.le_refl _) _ rfl ?_; intro g1 cap1 w3 hown3 hgrow3 hat3 hlt3; simp only [Nat.zero_add, List.nil_append] at hown3; have B3 : Below W.heap.size W w3 := (Below.refl W.heap.size W).drew.trans (below_grown (v := .slice none 0 0) (w := W.drew) hgrow3 (Nat.le_refl _) (fun g hg => by simp [Value.ownBlock] at hg)); have hc3 := (B3.cell (p := ⟨c, 0, none⟩) hcW).trans hcW0)
      | (refine step_append_eq rfl (.tmp 33) (.tmp 40) 102 rfl (.slice (some ⟨g1, 0, none⟩) k cap1) (.slice (some a2) (L.length - (k + 1)) (cap - (k + 1))) (.slice (some ⟨g1, 0, none⟩) k cap1) rfl (by rfl) (HZ3.out w3 g1 cap1 (own_le hown3)) ?_; have hfw := (B3.frozen (p := ⟨c, 0, none⟩) hcW)))
    all_goals
     go_wp2_with fail
     go_meet
     case rel =>
      refine fin w3 _ B3 ?_ ?_
      ·have e0 : L.drop (k + 1) = [] := List.drop_eq_nil_of_le (by omega)
       rw [show R.length = k by have := HRLn.out; omega, show ccells R = ccells (L.take k) by rw [HRC.out, e0]; exact List.append_nil _]
       exact hown3
      ·intro e
       have := HRLn.out
       rw [e] at this
       simp at this
       omega
 case rest =>
  obtain ⟨sv1, hR1, hU1, hbx1⟩ := hcut
  obtain ⟨a, cp, rfl⟩ := hR1.form
  have HR1 : Hid _ := hR1
  have HU1 : Hid _ := hU1
  have HX1 : Hid _ := hbx1
  have hRLi := HRL.out
  clear hR1 hU1 hbx1 hs1 hs2 HA2 hcW0 hfzW HRW HB HBX HD
  go_wp2
  go_loopw [10, 11] (fun l i wr => ∃ (m : Nat), m ≤ R.length ∧ i = .int .i64 m ∧ l = .bool (mTo ⟨no, ob, env, slot, ⟨x0, x1, x2, x3⟩⟩ R m) ∧ RefAt W.heap.size wr c (.slice a R.length cp) (dTo ⟨no, ob, env, slot, ⟨x0, x1, x2, x3⟩⟩ R m) last ∧ wr.heap[w.heap.size]? = some (.cells (ceCells ⟨no, ob, env, slot, ⟨x0, x1, x2, x3⟩⟩) 107) ∧ Upd c w wr) (fun _ i _ => R.length - (intOf i).toNat)
  case atStart => exact ⟨0, by omega, rfl, rfl, by rw [dTo_zero]; exact HR1.out, HX1.out, HU1.out⟩
  case round =>
   clear HR1 HU1 HX1
   obtain ⟨m, hm, rfl, rfl, hR2, hX2, hU2⟩ := hrel
   have hc0 := hR2.c0
   by_cases hlt2 : m < R.length
   ·obtain ⟨e, he⟩ : ∃ e, R[m]? = some e := ⟨R[m], List.getElem?_eq_getElem hlt2⟩
    obtain ⟨st1, st2⟩ := dTo_step (d := ⟨no, ob, env, slot, ⟨x0, x1, x2, x3⟩⟩) he
    have hmt := mTo_step (d := ⟨no, ob, env, slot, ⟨x0, x1, x2, x3⟩⟩) he
    obtain ⟨g1, cap', esv, ⟨⟨e0, e1, e2, e3⟩, e4, e5, e6, e7⟩⟩ := hR2.at st1
    rw [dTo_len] at esv
    simp only [Value.slice.injEq] at esv
    obtain ⟨rfl, _, rfl⟩ := esv
    obtain ⟨⟨q0, q1⟩, q4, q5, q6⟩ := ce_cells hX2
    have hfz1 : wr.frozen? ⟨g1, m * 8 + 1, none⟩ = false := by
     rcases hR2.own.2 with ⟨h1, _⟩ | ⟨g', cap', cur, h1, _, hh, _⟩
     ·cases h1
     ·simp only [Value.slice.injEq, Option.some.injEq, Addr.mk.injEq] at h1
      obtain ⟨⟨rfl, _⟩, _⟩ := h1
      exact frozen_of_heap hh
    have hg1 : W.heap.size ≤ g1 := ownsRow_low hR2.own g1 rfl
    have HST : Hid _ := st1
    have HHit : Hid (e.ob = no → (dTo ⟨no, ob, env, slot, ⟨x0, x1, x2, x3⟩⟩ R m).set m ⟨e.no, ob, e.env, e.slot, e.x⟩ = dTo ⟨no, ob, env, slot, ⟨x0, x1, x2, x3⟩⟩ R (m + 1)) := fun ho => dTo_hit he ho
    have HMiss : Hid (e.ob ≠ no → dTo ⟨no, ob, env, slot, ⟨x0, x1, x2, x3⟩⟩ R m = dTo ⟨no, ob, env, slot, ⟨x0, x1, x2, x3⟩⟩ R (m + 1)) := fun ho => dTo_miss he ho
    have HNX : Hid (∃ f, (dTo ⟨no, ob, env, slot, ⟨x0, x1, x2, x3⟩⟩ R (m + 1))[m]? = some f ∧ f.x = e.x) := by
     refine ⟨rdropG ⟨no, ob, env, slot, ⟨x0, x1, x2, x3⟩⟩ e, ?_, rdropG_x _ _⟩
     rw [← st2, List.getElem?_set_self (by rw [dTo_len]; exact hlt2)]
    have HSe : Hid (Sane e.x) := HSR.out e (List.mem_of_getElem? he)
    have HMT : Hid _ := hmt
    have HR2 : Hid _ := hR2
    have HX2 : Hid _ := hX2
    have HU2 : Hid _ := hU2
    have hmi : (m : Int) < (R.length : Int) := by omega
    clear he st1 st2 hmt hR2 hX2 hU2
    generalize mTo ⟨no, ob, env, slot, ⟨x0, x1, x2, x3⟩⟩ R m = lb at *
    obtain ⟨eno, eob, eenv, eslot, ⟨y0, y1, y2, y3⟩⟩ := e
    dsimp only at *
    go_upto_region 10 with fail
    go_quiet (fail)
    go_upto_if 63 with fail
    go_cut [] (fun wc => RefAt W.heap.size wc c (.slice (some ⟨g1, 0, none⟩) R.length cp) (dTo ⟨no, ob, env, slot, ⟨x0, x1, x2, x3⟩⟩ R (m + 1)) last ∧ wc.heap[w.heap.size]? = some (.cells (ceCells ⟨no, ob, env, slot, ⟨x0, x1, x2, x3⟩⟩) 107) ∧ Upd c w wc)
    case first =>
     obtain ⟨V, hV⟩ : ∃ V, V = wr.drewN nq := ⟨_, rfl⟩
     rw [← hV]
     have hbV : Below wr.heap.size wr V := by rw [hV]; exact below_drewN (Below.refl _ _) nq
     have HR3 : Hid _ := HR2.out.below hbV
     have HX3 : Hid _ := (hbV.block _ (lt_of_heap HX2.out)).trans HX2.out
     have HU3 : Hid _ := HU2.out.trans (Upd.of_below hbV)
     have p0 := HR3.out.c0
     have p1 := (hbV.cell (cell_lt q1)).trans q1
     have p2 := (hbV.frozen (p := ⟨g1, m * 8 + 1, none⟩) (cell_lt e1)).trans hfz1
     have p3 := (hbV.cell (cell_lt e1)).trans e1
     clear hV hbV q0 q1 q4 q5 q6 e0 e1 e2 e3 e4 e5 e6 e7 hc0 hfz1 HMT HNX HSe HSR HR2 HX2 HU2
     by_cases ho : eob = no
     ·have hoo : (eob == no) = true := by simp [ho]
      have HS3 : Hid _ := HR3.out.setOb HST.out ob
      have HH3 : Hid _ := HHit.out ho
      clear HHit HMiss ho
      go_wp2_with fail
      go_region
      all_goals
       go_wp2_with fail
       go_meet
       case rel =>
        refine ⟨?_, ?_, ?_⟩
        ·have h1 := HS3.out
         rw [HH3.out] at h1
         exact h1.below (Below.refl _ _).drew
        ·exact (Below.heap_setCell _ _ _ _ (by show w.heap.size ≠ g1; omega)).trans HX3.out
        ·exact (HU3.out.far (by omega) _).trans (Upd.drew _ _)
     ·have hoo : (eob == no) = false := by simp [ho]
      have HH3 : Hid _ := HMiss.out ho
      clear HHit HMiss ho
      go_wp2_with fail
      go_meet
      case rel =>
       refine ⟨?_, HX3.out, HU3.out⟩
       rw [← HH3.out]
       exact HR3.out
    case rest =>
     obtain ⟨hR4, hX4, hU4⟩ := hcut
     obtain ⟨f, hf1, hf2⟩ := HNX.out
     obtain ⟨g1', cap', esv, ⟨zz, z4, z5, z6, z7⟩⟩ := hR4.at hf1
     rw [dTo_len] at esv
     simp only [Value.slice.injEq, Option.some.injEq, Addr.mk.injEq] at esv
     obtain ⟨⟨rfl, _⟩, _, rfl⟩ := esv
     rw [hf2] at z4 z5 z6 z7
     dsimp only at z4 z5 z6 z7
     obtain ⟨_, v4, v5, v6⟩ := ce_cells hX4
     dsimp only at v4 v5 v6
     have v0 := hR4.c0
     have HR4 : Hid _ := hR4
     have HX4 : Hid _ := hX4
     have HU4 : Hid _ := hU4
     obtain ⟨s1, s2, s3, s4, s5, s6, s7, s8⟩ := HSe.out
     obtain ⟨t1, t2, t3, t4, t5, t6, t7, t8⟩ := HSd.out
     dsimp only at s1 s2 s3 s4 s5 s6 s7 s8 t1 t2 t3 t4 t5 t6 t7 t8
     have hwlt : w.heap.size < wc.heap.size := lt_of_heap hX4
     clear hf1 hf2 hR4 hX4 hU4 HNX HHit HMiss HST HR2 HX2 HU2 q0 q1 q4 q5 q6 e0 e1 e2 e3 e4 e5 e6 e7 hc0 hfz1 HSR zz f
     go_wp2
     all_goals
      go_roundw
      case rel =>
       refine ⟨m + 1, by omega, by go_num, ?_, HR4.out.below (below_alloc _ _), ((below_alloc _ _).block _ hwlt).trans HX4.out, HU4.out.trans (Upd.of_below (below_alloc _ _))⟩
       rw [HMT.out]
       simp_all [meetsB]
       try omega
      case measure => simp [intOf]; omega
   ·obtain rfl : m = R.length := by omega
    have HR2 : Hid _ := hR2
    have HU2 : Hid _ := hU2
    clear hR2 hU2
    go_wp2
    go_ret2
    refine ⟨?_, .slice a R.length cp, ?_, HU2.out⟩
    ·unfold mTo
     rw [List.take_of_length_le (Nat.le_refl _)]
     rfl
    ·have := HR2.out
     rw [dTo_all] at this
     exact this.mono (by omega)
theorem rdrop_at (M c : Nat) (sv : Value) (L : List Ce) (last n s : Int) (w : World) (h : RefAt M w c sv L last) (hM : M ≤ w.heap.size) (hl : L.length ≤ 900) (hS : RSanes L) :
  Calls Tryz.prog 150 #[.pointer (some ⟨c, 0, none⟩), .int .i64 n, .int .i64 s] w fun e w' => e = .returned (.tuple #[.bool (rdropA L n s), .int .i64 (if rfindI L n s < 0 then 104 else 0)]) ∧ ∃ sv', RefAt M w' c sv' (rdropL L n s) last ∧ Upd c w w' := by
 rcases rfindI_range L n s with e | ⟨k, d, e, hd, hat⟩
 ·obtain ⟨e1, e2⟩ := rdrop_none e
  rw [e1, e2, if_pos (by omega)]
  refine (rdrop_no M c sv L last n s w h hl e).mono ?_
  rintro e w' ⟨rfl, rfl⟩
  exact ⟨rfl, sv, h, Upd.refl _ _⟩
 ·obtain ⟨e1, e2⟩ := rdrop_some e hd
  rw [e1, e2, if_neg (by omega)]
  exact rdrop_yes M c sv L last n s k d w h hM hl hS e hd
end Ca
end Go.Proofs.YtbhpafgoofkkmaaGreatDoor
namespace Go.Proofs.YtbhpafgoofkkmaaGreatDoor
open Go.RowKit
namespace Ca
theorem rin_at (D : List Int) (a : Option Addr) (cap : Nat) (n : Int) (w : World) (ha : IRow w a D) (hl : D.length ≤ 1000000) :
  Calls Tryz.prog 80 #[.slice a D.length cap, .int .i64 n] w fun e w' => e = .returned (.bool (D.contains n)) ∧ w' = w := by
 have HA : Hid _ := ha
 clear ha
 go_enter Tryz.func80, Tryz.ntmps80
 go_wp2
 go_loopw [5] (fun s wr => ∃ (k : Nat), k ≤ D.length ∧ s = .int .i64 k ∧ Hid (∀ (j : Nat) (x : Int), j < k → D[j]? = some x → x ≠ n) ∧ wr = w) (fun s _ => D.length - (intOf s).toNat)
 case atStart => exact ⟨0, by omega, rfl, (show Hid _ from fun j x hj => absurd hj (Nat.not_lt_zero _)), rfl⟩
 case round =>
  obtain ⟨k, hk, rfl, HN, hw⟩ := hrel
  subst hw
  by_cases hlt : k < D.length
  ·obtain ⟨x, hx⟩ : ∃ x, D[k]? = some x := ⟨D[k], List.getElem?_eq_getElem hlt⟩
   obtain ⟨ga, oa, rfl, c0⟩ := HA.out k x hx
   by_cases e : x = n
   ·subst e
    have HF : Hid (D.contains x = true) := by show D.contains x = true; rw [List.contains_iff_mem]; exact List.mem_of_getElem? hx
    clear hx HN
    go_wp2
    go_ret
    exact ⟨by rw [HF.out]; rfl, rfl⟩
   ·have hne : (x == n) = false := by simp [e]
    have HM : Hid (∀ (j : Nat) (y : Int), j < k + 1 → D[j]? = some y → y ≠ n) := by
     intro j y hj hy
     by_cases ej : j = k
     ·rw [ej, hx] at hy
      cases hy
      exact e
     ·exact HN.out j y (by omega) hy
    clear hx HN e
    go_wp2
    go_roundw
    case rel => exact ⟨k + 1, by omega, by go_num, HM, by first | rfl | trivial⟩
    case measure => simp [intOf]; omega
  ·obtain rfl : k = D.length := by omega
   have HF : Hid (D.contains n = false) := by
    show D.contains n = false
    rw [← Bool.not_eq_true, List.contains_iff_mem]
    intro hm
    obtain ⟨j, hj⟩ := List.mem_iff_getElem?.1 hm
    exact HN.out j n (List.getElem?_eq_some_iff.1 hj).1 hj rfl
   go_wp2
   go_ret
   exact ⟨by rw [HF.out]; rfl, rfl⟩
structure BadK (L : List Ce) (root : Int) (D : List Int) : Prop where
 head : D[0]? = some root
 nd : D.Nodup
 sub : ∀ b ∈ D, b = root ∨ ∃ c ∈ L, c.no = b ∧ c.ob ∈ D
theorem BadK.len {L : List Ce} {root : Int} {D : List Int} (h : BadK L root D) (hr : root ∈ L.map Ce.no) : D.length ≤ L.length := by
 have := h.nd.length_le_of_subset (l₂ := L.map Ce.no) (fun b hb => by
   rcases h.sub b hb with rfl | ⟨c, hc, rfl, _⟩
   · exact hr
   · exact List.mem_map_of_mem hc)
 simpa using this
theorem BadK.pos {L : List Ce} {root : Int} {D : List Int} (h : BadK L root D) : 1 ≤ D.length := by
 have := (List.getElem?_eq_some_iff.1 h.head).1
 omega
theorem BadK.more {L : List Ce} {root : Int} {D : List Int} (h : BadK L root D) {c : Ce} (hc : c ∈ L) (ho : c.ob ∈ D) (hn : c.no ∉ D) : BadK L root (D ++ [c.no]) := by
 refine ⟨?_, ?_, fun b hb => ?_⟩
 ·rw [List.getElem?_append_left (by have := h.pos; omega)]
  exact h.head
 ·rw [List.nodup_append]
  refine ⟨h.nd, by simp, fun a ha b hb e => ?_⟩
  rw [List.mem_singleton.1 hb] at e
  exact hn (e ▸ ha)
 ·rcases List.mem_append.1 hb with hb | hb
  ·rcases h.sub b hb with e | ⟨c', hc', e, ho'⟩
   ·exact Or.inl e
   ·exact Or.inr ⟨c', hc', e, List.mem_append_left _ ho'⟩
  ·rw [List.mem_singleton.1 hb]
   exact Or.inr ⟨c, hc, rfl, List.mem_append_left _ ho⟩
theorem BadK.start (L : List Ce) (root : Int) : BadK L root [root] := ⟨rfl, by simp, fun b hb => Or.inl (List.mem_singleton.1 hb)⟩
def bN : Value → Nat
 | .bool true => 1
 | _ => 0
theorem own_apart {w : World} {b1 b2 : Nat} {e1 e2 : TypeId} {s1 s2 : Nat} {v1 v2 : Value} {n1 n2 : Nat} {x1 x2 : List Value} (h1 : w.ownsRow b1 e1 s1 v1 n1 x1) (h2 : w.ownsRow b2 e2 s2 v2 n2 x2) (hne : e1 ≠ e2) : ∀ g, v1.ownBlock = some g → some g ≠ v2.ownBlock := by
 intro g hg e
 rcases h1.2 with ⟨h, _⟩ | ⟨g1, cap1, cur1, h, _, hh1, _⟩
 ·rw [h] at hg; simp [Value.ownBlock] at hg
 ·rcases h2.2 with ⟨k, _⟩ | ⟨g2, cap2, cur2, k, _, hh2, _⟩
  ·rw [k] at e; simp [Value.ownBlock] at e
  ·rw [h] at hg
   rw [k] at e
   simp [Value.ownBlock] at hg e
   subst hg e
   rw [hh1] at hh2
   simp at hh2
   exact hne hh2.2
theorem rrevoke_no (M c : Nat) (sv : Value) (L : List Ce) (last n s : Int) (w : World) (h : RefAt M w c sv L last) (hl : L.length ≤ 900) (hf : rfindI L n s = -1) :
  Calls Tryz.prog 85 #[.pointer (some ⟨c, 0, none⟩), .int .i64 n, .int .i64 s] w fun e w' => e = .returned (.tuple #[.int .i64 0, .int .i64 104]) ∧ w' = w := by
 have hfa := find_at M c sv L last n s w h (by omega)
 rw [hf] at hfa
 clear h hf
 go_enter Tryz.func85, Tryz.ntmps85
 go_wp2_with (go_at_call 106; refine hfa.mono ?_; rintro e w1 ⟨rfl, hw1⟩; rw [hw1]; clear hw1 w1)
 go_ret2
 exact ⟨rfl, rfl⟩
set_option maxRecDepth 100000 in
set_option maxHeartbeats 8000000 in
theorem rrevoke_yes (M c : Nat) (sv : Value) (L : List Ce) (last n s : Int) (k : Nat) (d : Ce) (w : World) (h : RefAt M w c sv L last) (hM : M ≤ w.heap.size) (hl : L.length ≤ 900) (hf : rfindI L n s = (k : Int)) (hd : L[k]? = some d) :
  Calls Tryz.prog 85 #[.pointer (some ⟨c, 0, none⟩), .int .i64 n, .int .i64 s] w fun e w' => ∃ bad, Bad L d.no bad ∧ e = .returned (.tuple #[.int .i64 ((bad.length : Int) - 1), .int .i64 0]) ∧ ∃ sv', RefAt M w' c sv' (rrevL L d.no bad) last ∧ Upd c w w' := by
 obtain ⟨i0, hi0, hzz⟩ := Option.map_eq_some_iff.1 intInfo
 simp only [Prod.mk.injEq] at hzz
 obtain ⟨hz0, hz1, hz2⟩ := hzz
 obtain ⟨j0, hj0, hyy⟩ := Option.map_eq_some_iff.1 ceInfo
 simp only [Prod.mk.injEq] at hyy
 obtain ⟨hy0, hy1, hy2⟩ := hyy
 have hfa := find_at M c sv L last n s w h (by omega)
 rw [hf] at hfa
 obtain ⟨g, cap, hsv, ⟨⟨d0, d1, d2, d3⟩, d4, d5, d6, d7⟩⟩ := h.at hd
 have c0 := h.c0
 have hkl : k < L.length := (List.getElem?_eq_some_iff.1 hd).1
 have hki : (k : Int) < (L.length : Int) := by omega
 have hlt := h.lt
 have hil : (L.length : Int) ≤ 900 := by omega
 have HRoot : Hid (d.no ∈ L.map Ce.no) := List.mem_map_of_mem (List.mem_of_getElem? hd)
 have HMem : Hid (d ∈ L) := List.mem_of_getElem? hd
 have HH : Hid _ := h
 obtain ⟨root, hroot⟩ : ∃ root, root = d.no := ⟨_, rfl⟩
 rw [← hroot] at HRoot d0 ⊢
 have HRO : Hid _ := hroot
 obtain ⟨W, hW⟩ : ∃ W, W = w.alloc (.cells #[.int .i64 root] 3) := ⟨_, rfl⟩
 have hbW : Below w.heap.size w W := by rw [hW]; exact below_alloc _ _
 have HB : Hid _ := hbW
 have HOW : Hid (W.ownsRow w.heap.size 3 1 (.slice (some ⟨w.heap.size, 0, none⟩) 1 1) 1 (ivs [root])) := by
  rw [hW]
  exact ⟨rfl, Or.inr ⟨_, 1, _, rfl, Nat.le_refl _, heap_alloc_new _ _, Nat.le_refl _, by unfold maxLen; omega, rfl, rfl⟩⟩
 clear h hf hd hbW hroot
 subst hsv
 go_enter Tryz.func85, Tryz.ntmps85
 go_wp2_with fail
 refine hfa.mono ?_
 rintro e w1 ⟨rfl, hw1⟩
 rw [hw1]
 clear hw1 w1 hfa
 go_wp2
 rw [← hW]
 clear hW d0 d1 d2 d3 d4 d5 d6 d7 c0
 go_loopw [9, 10, 11] (fun s9 s10 s11 wr => ∃ (D : List Int) (v : Value) (m : Bool), v = s9 ∧ s10 = .int .i64 ((D.length : Int) - 1) ∧ s11 = .bool m ∧ wr.ownsRow w.heap.size 3 1 v D.length (ivs D) ∧ Hid (BadK L root D) ∧ Hid (m = false → ∀ e ∈ L, e.ob ∈ D → e.no ∈ D) ∧ Below w.heap.size w wr) (fun _ s10 s11 _ => 2 * (1000 - (intOf s10).toNat) + bN s11)
 case atStart => exact ⟨[root], _, true, rfl, rfl, rfl, HOW.out, (show Hid _ from BadK.start L root), (show Hid _ from fun e => by cases e), HB.out⟩
 case round =>
  clear HB HOW
  obtain ⟨D, v, m, rfl, rfl, rfl, hown, HK, HCl, hb⟩ := hrel
  have hDl := HK.out.len HRoot.out
  have hDp := HK.out.pos
  cases m with
  | true =>
   have HO : Hid _ := hown
   have HB : Hid _ := hb
   clear hown hb HCl
   go_wp2
   go_loopw [9, 10, 11, 12] (fun s9 s10 s11 s12 wr => ∃ (i : Nat) (E : List Int) (v : Value) (m : Bool), i ≤ L.length ∧ v = s9 ∧ s10 = .int .i64 ((E.length : Int) - 1) ∧ s11 = .bool m ∧ s12 = .int .i64 i ∧ wr.ownsRow w.heap.size 3 1 v E.length (ivs E) ∧ Hid (BadK L root E) ∧ Hid (m = false → ∀ (j : Nat) (e : Ce), j < i → L[j]? = some e → e.ob ∈ E → e.no ∈ E) ∧ Hid (D.length ≤ E.length ∧ (m = true → D.length < E.length)) ∧ Below w.heap.size w wr) (fun _ _ _ s12 _ => L.length - (intOf s12).toNat)
   case atStart => exact ⟨0, D, v, false, by omega, rfl, rfl, rfl, rfl, HO.out, HK, (show Hid _ from fun _ j e hj => absurd hj (Nat.not_lt_zero _)), (show Hid _ from ⟨Nat.le_refl _, fun e => by cases e⟩), HB.out⟩
   case round =>
    clear HO HB HK
    obtain ⟨i, E, v, m, hi, rfl, rfl, rfl, rfl, hown, HK, HCl, HGr, hb⟩ := hrel
    have hEl := HK.out.len HRoot.out
    have hEp := HK.out.pos
    have hRr := HH.out.below hb
    have c0 := hRr.c0
    have HO : Hid _ := hown
    have HB : Hid _ := hb
    by_cases hlt2 : i < L.length
    ·obtain ⟨e, he⟩ : ∃ e, L[i]? = some e := ⟨L[i], List.getElem?_eq_getElem hlt2⟩
     obtain ⟨g1, cap1, esv, ⟨⟨e0, e1, e2, e3⟩, e4, e5, e6, e7⟩⟩ := hRr.at he
     simp only [Value.slice.injEq, Option.some.injEq, Addr.mk.injEq] at esv
     obtain ⟨⟨rfl, _⟩, _, rfl⟩ := esv
     have hii : (i : Int) < (L.length : Int) := by omega
     obtain ⟨a, ca, rfl, hrow⟩ := own_irow (D := E) hown
     have HOA : Hid (∀ o, (wr.alloc o).ownsRow w.heap.size 3 1 (.slice a E.length ca) E.length (ivs E)) := fun o => hown.alloc o
     have h1 := rin_at E a ca e.ob wr hrow (by omega)
     have h2 := rin_at E a ca e.no wr hrow (by omega)
     have HN1 : Hid ((E.contains e.ob = true → E.contains e.no = true) → (m = false → ∀ (j : Nat) (f : Ce), j < i + 1 → L[j]? = some f → f.ob ∈ E → f.no ∈ E)) := by
      intro hh hm j f hj hf ho
      by_cases ej : j = i
      ·rw [ej, he] at hf
       cases hf
       exact List.contains_iff_mem.1 (hh (List.contains_iff_mem.2 ho))
      ·exact HCl.out hm j f (by omega) hf ho
     have HMo : Hid (E.contains e.ob = true → E.contains e.no = false → BadK L root (E ++ [e.no])) := by
      intro t1 t2
      refine HK.out.more (List.mem_of_getElem? he) (List.contains_iff_mem.1 t1) ?_
      intro hm
      rw [List.contains_iff_mem.2 hm] at t2
      cases t2
     clear he hRr hown hrow hb HCl
     generalize E.contains e.ob = t1 at *
     generalize E.contains e.no = t2 at *
     obtain ⟨eno, eob, eenv, eslot, ex⟩ := e
     dsimp only at *
     cases t1 with
     | false =>
      have HN2 : Hid _ := HN1.out (fun e => by cases e)
      clear HN1 HMo h2
      go_wp2_with fail
      refine h1.mono ?_
      rintro e w1 ⟨rfl, hw1⟩
      rw [hw1]
      clear hw1 w1 h1
      go_wp2
      go_roundw
      case rel => exact ⟨i + 1, E, _, m, by omega, rfl, rfl, rfl, by go_num, HO.out, HK, HN2, HGr, HB.out⟩
      case measure => simp [intOf]; omega
     | true =>
      cases t2 with
      | true =>
       have HN2 : Hid _ := HN1.out (fun _ => rfl)
       clear HN1 HMo
       go_wp2_with fail
       refine h1.mono ?_
       rintro e w1 ⟨rfl, hw1⟩
       rw [hw1]
       clear hw1 w1 h1
       go_wp2_with fail
       refine h2.mono ?_
       rintro e w1 ⟨rfl, hw1⟩
       rw [hw1]
       clear hw1 w1 h2
       go_wp2
       go_roundw
       case rel => exact ⟨i + 1, E, _, m, by omega, rfl, rfl, rfl, by go_num, HO.out, HK, HN2, HGr, HB.out⟩
       case measure => simp [intOf]; omega
      | false =>
       have HK2 : Hid _ := HMo.out rfl rfl
       clear HN1 HMo
       have hws := HB.out.size
       go_wp2_with fail
       refine h1.mono ?_
       rintro e w1 ⟨rfl, hw1⟩
       rw [hw1]
       clear hw1 w1 h1
       go_wp2_with fail
       refine h2.mono ?_
       rintro e w1 ⟨rfl, hw1⟩
       rw [hw1]
       clear hw1 w1 h2
       go_wp2_with (at_builtin; refine wpList_append_lies _ rfl _ _ _ rfl w.heap.size 3 i0 _ 1 8 Tryz.underlying46 hi0 hz0 hz1 hz2 rfl (by omega) (.slice a E.length ca) E.length (ivs E) rfl (HOA.out _) ⟨wr.heap.size, 0, none⟩ 1 1 [.int .i64 eno] rfl rfl (World.news_of_block (cs := #[.int .i64 eno]) (t := 3) (fr := (0, 0)) (heap_alloc_new _ _)) (by simp [Value.oneCell']) (by omega) (by unfold maxLen; omega) (by omega) (by simp; omega) _ rfl ?_; intro gg cap w2 hown2 hgrow hat hlt2)
       go_roundw
       case rel =>
        refine ⟨i + 1, E ++ [eno], _, true, by omega, rfl, ?_, rfl, by go_num, ?_, HK2, (show Hid _ from fun e => by cases e), (show Hid _ from ⟨?_, fun _ => ?_⟩), (HB.out.alloc hws _).trans (below_grown hgrow (by simp; omega) (ownsRow_low HO.out))⟩
        ·have e9 : ((E ++ [eno]).length : Int) - 1 = E.length := by simp
         rw [e9]
        ·rw [List.length_append]
         simpa [ivs] using hown2
        ·have := HGr.out.1
         rw [List.length_append]
         omega
        ·have := HGr.out.1
         rw [List.length_append]
         simp
         omega
       case measure => simp [intOf]; omega
    ·obtain rfl : i = L.length := by omega
     clear hRr hown hb
     have HCl2 : Hid (m = false → ∀ e ∈ L, e.ob ∈ E → e.no ∈ E) := by
      intro hm e he ho
      obtain ⟨j, hj⟩ := List.mem_iff_getElem?.1 he
      exact HCl.out hm j e (List.getElem?_eq_some_iff.1 hj).1 hj ho
     have hgr1 := HGr.out.1
     have hgr2 := HGr.out.2
     clear HCl
     go_wp2
     go_roundw
     case rel => exact ⟨E, _, m, rfl, rfl, rfl, HO.out, HK, HCl2, HB.out⟩
     case measure =>
      cases m with
      | true =>
       have := hgr2 rfl
       simp [intOf, bN]
       omega
      | false =>
       simp [intOf, bN]
       omega
  | false =>
   have HBad : Hid (Bad L root D) := by
    have hk := HK.out
    exact ⟨List.mem_of_getElem? hk.head, hk.nd, HCl.out rfl, hk.sub⟩
   have HHd : Hid (D[0]? = some root) := HK.out.head
   obtain ⟨a, ca, rfl, _⟩ := own_irow (D := D) hown
   have HO : Hid _ := hown
   have HB : Hid _ := hb
   clear hown hb HK HCl
   go_wp2
   go_loopw [13, 14] (fun s13 s14 wr => ∃ (i : Nat) (v : Value), i ≤ L.length ∧ v = s13 ∧ s14 = .int .i64 i ∧ wr.ownsRow w.heap.size 107 8 v (rrevL (L.take i) root D).length (ccells (rrevL (L.take i) root D)) ∧ wr.ownsRow w.heap.size 3 1 (.slice a D.length ca) D.length (ivs D) ∧ Below w.heap.size w wr) (fun _ s14 _ => L.length - (intOf s14).toNat)
   case atStart => exact ⟨0, _, by omega, rfl, rfl, World.ownsRow_nil _ _ _ _, HO.out, HB.out⟩
   case round =>
    clear HO HB
    obtain ⟨i, v, hi, rfl, rfl, hown, hbad, hb⟩ := hrel
    have hRr := HH.out.below hb
    have c0 := hRr.c0
    by_cases hlt2 : i < L.length
    ·obtain ⟨e, he⟩ : ∃ e, L[i]? = some e := ⟨L[i], List.getElem?_eq_getElem hlt2⟩
     obtain ⟨g1, cap1, esv, ⟨⟨e0, e1, e2, e3⟩, e4, e5, e6, e7⟩⟩ := hRr.at he
     simp only [Value.slice.injEq, Option.some.injEq, Addr.mk.injEq] at esv
     obtain ⟨⟨rfl, _⟩, _, rfl⟩ := esv
     have hii : (i : Int) < (L.length : Int) := by omega
     obtain ⟨a', ca', ea, hrow⟩ := own_irow (D := D) hbad
     simp only [Value.slice.injEq] at ea
     obtain ⟨rfl, _, rfl⟩ := ea
     obtain ⟨gb, ob, rfl, hb0⟩ := hrow 0 root HHd.out
     rw [Nat.add_zero] at hb0
     have h2 := fun q => rin_at D _ ca e.no (wr.drewN q) (hrow.below (below_drewN (Below.refl _ wr) q)) (by omega)
     have HY : Hid ((e.no == root || !D.contains e.no) = true → rrevL (L.take (i + 1)) root D = rrevL (L.take i) root D ++ [e]) := by
      intro hp
      obtain ⟨hi', rfl⟩ := List.getElem?_eq_some_iff.1 he
      unfold rrevL
      rw [show L.take (i + 1) = L.take i ++ [L[i]] by simp, List.filter_append, List.filter_cons, if_pos hp]
      rfl
     have HNo : Hid ((e.no == root || !D.contains e.no) = false → rrevL (L.take (i + 1)) root D = rrevL (L.take i) root D) := by
      intro hp
      obtain ⟨hi', rfl⟩ := List.getElem?_eq_some_iff.1 he
      unfold rrevL
      rw [show L.take (i + 1) = L.take i ++ [L[i]] by simp, List.filter_append, List.filter_cons, if_neg (by rw [hp]; simp)]
      simp
     have hlen : (rrevL (L.take i) root D).length ≤ i := by
      unfold rrevL
      exact Nat.le_trans (List.length_filter_le _ _) (by rw [List.length_take]; omega)
     have hDl2 : (0 : Int) < (D.length : Int) := by omega
     have HOW : Hid _ := hown
     have HBD : Hid _ := hbad
     have HBB : Hid _ := hb
     have HRr : Hid _ := hRr
     clear he hRr hown hrow hb hbad
     generalize D.contains e.no = t2 at *
     generalize rrevL (L.take i) root D = Q at *
     obtain ⟨eno, eob, eenv, eslot, ⟨x0, x1, x2, x3⟩⟩ := e
     dsimp only at *
     by_cases hro : eno = root
     ·have hoo : (eno == root) = true := by simp [hro]
      clear hro
      have HQ : Hid _ := HY.out (by rw [hoo]; rfl)
      go_wp2_with fail
      go_quiet (fail)
      obtain ⟨V, hV⟩ : ∃ V, V = wr.drewN nq := ⟨_, rfl⟩
      rw [← hV]
      have hbV : Below wr.heap.size wr V := by rw [hV]; exact below_drewN (Below.refl _ wr) nq
      have HOV : Hid (V.ownsRow w.heap.size 107 8 v Q.length (ccells Q)) := ownsRow_below HOW.out hbV
      have HBV2 : Hid (V.ownsRow w.heap.size 3 1 (.slice (some ⟨gb, ob, none⟩) D.length ca) D.length (ivs D)) := ownsRow_below HBD.out hbV
      have HBV : Hid (Below w.heap.size w V) := HBB.out.trans (hbV.mono HBB.out.size)
      have HOA : Hid (∀ o, (V.alloc o).ownsRow w.heap.size 107 8 v Q.length (ccells Q)) := fun o => World.ownsRow.alloc HOV.out o
      have hVs := HBV.out.size
      have p0 := (HRr.out.below hbV).c0
      have k0 := (hbV.cell (cell_lt e0)).trans e0
      have k1 := (hbV.cell (cell_lt e1)).trans e1
      have k2 := (hbV.cell (cell_lt e2)).trans e2
      have k3 := (hbV.cell (cell_lt e3)).trans e3
      have k4 := (hbV.cell (cell_lt e4)).trans e4
      have k5 := (hbV.cell (cell_lt e5)).trans e5
      have k6 := (hbV.cell (cell_lt e6)).trans e6
      have k7 := (hbV.cell (cell_lt e7)).trans e7
      clear hV hbV c0 e0 e1 e2 e3 e4 e5 e6 e7 hb0 HNo HY
      go_wp2_with (at_builtin; refine wpList_append_lies _ rfl _ _ _ rfl w.heap.size 107 j0 _ 8 64 Tryz.underlying102 hj0 hy0 hy1 hy2 rfl (by omega) v Q.length (ccells Q) rfl (HOA.out _) ⟨V.heap.size, 0, none⟩ 1 1 (ceRow ⟨eno, eob, eenv, eslot, ⟨x0, x1, x2, x3⟩⟩) rfl rfl (World.news_of_block (cs := (ceRow ⟨eno, eob, eenv, eslot, ⟨x0, x1, x2, x3⟩⟩).toArray) (t := 107) (fr := (0, 0)) (heap_alloc_new _ _)) (by simp [Value.oneCell']) (by omega) (by unfold maxLen; omega) (by omega) (by simp; omega) _ rfl ?_; intro gg capx w2 hown2 hgrow hat hlt2)
      go_roundw
      case rel =>
       refine ⟨i + 1, _, by omega, rfl, by go_num, ?_, ?_, (HBV.out.alloc hVs _).trans (below_grown hgrow (by simp; omega) (ownsRow_low HOV.out))⟩
       ·rw [HQ.out, List.length_append, ccells_app]
        exact hown2
       ·exact ownsRow_at (World.ownsRow.alloc HBV2.out _) (fun g hg => hgrow.block g (by have := (HBV2.out.lt g hg).2; simp; omega) (own_apart HBV2.out HOV.out (by decide) g hg))
      case measure => simp [intOf]; omega
     ·have hoo : (eno == root) = false := by simp [hro]
      clear hro
      cases t2 with
      | false =>
       have HQ : Hid _ := HY.out (by rw [hoo]; rfl)
       go_wp2_with fail
       go_quiet (first | (go_at_call 80; refine Calls.quiet_of_same (h2 _)))
       obtain ⟨V, hV⟩ : ∃ V, V = wr.drewN nq := ⟨_, rfl⟩
       rw [← hV]
       have hbV : Below wr.heap.size wr V := by rw [hV]; exact below_drewN (Below.refl _ wr) nq
       have HOV : Hid (V.ownsRow w.heap.size 107 8 v Q.length (ccells Q)) := ownsRow_below HOW.out hbV
       have HBV2 : Hid (V.ownsRow w.heap.size 3 1 (.slice (some ⟨gb, ob, none⟩) D.length ca) D.length (ivs D)) := ownsRow_below HBD.out hbV
       have HBV : Hid (Below w.heap.size w V) := HBB.out.trans (hbV.mono HBB.out.size)
       have HOA : Hid (∀ o, (V.alloc o).ownsRow w.heap.size 107 8 v Q.length (ccells Q)) := fun o => World.ownsRow.alloc HOV.out o
       have hVs := HBV.out.size
       have p0 := (HRr.out.below hbV).c0
       have k0 := (hbV.cell (cell_lt e0)).trans e0
       have k1 := (hbV.cell (cell_lt e1)).trans e1
       have k2 := (hbV.cell (cell_lt e2)).trans e2
       have k3 := (hbV.cell (cell_lt e3)).trans e3
       have k4 := (hbV.cell (cell_lt e4)).trans e4
       have k5 := (hbV.cell (cell_lt e5)).trans e5
       have k6 := (hbV.cell (cell_lt e6)).trans e6
       have k7 := (hbV.cell (cell_lt e7)).trans e7
       clear hV hbV c0 e0 e1 e2 e3 e4 e5 e6 e7 hb0 HNo HY
       go_wp2_with (at_builtin; refine wpList_append_lies _ rfl _ _ _ rfl w.heap.size 107 j0 _ 8 64 Tryz.underlying102 hj0 hy0 hy1 hy2 rfl (by omega) v Q.length (ccells Q) rfl (HOA.out _) ⟨V.heap.size, 0, none⟩ 1 1 (ceRow ⟨eno, eob, eenv, eslot, ⟨x0, x1, x2, x3⟩⟩) rfl rfl (World.news_of_block (cs := (ceRow ⟨eno, eob, eenv, eslot, ⟨x0, x1, x2, x3⟩⟩).toArray) (t := 107) (fr := (0, 0)) (heap_alloc_new _ _)) (by simp [Value.oneCell']) (by omega) (by unfold maxLen; omega) (by omega) (by simp; omega) _ rfl ?_; intro gg capx w2 hown2 hgrow hat hlt2)
       go_roundw
       case rel =>
        refine ⟨i + 1, _, by omega, rfl, by go_num, ?_, ?_, (HBV.out.alloc hVs _).trans (below_grown hgrow (by simp; omega) (ownsRow_low HOV.out))⟩
        ·rw [HQ.out, List.length_append, ccells_app]
         exact hown2
        ·exact ownsRow_at (World.ownsRow.alloc HBV2.out _) (fun g hg => hgrow.block g (by have := (HBV2.out.lt g hg).2; simp; omega) (own_apart HBV2.out HOV.out (by decide) g hg))
       case measure => simp [intOf]; omega
      | true =>
       have HQ : Hid _ := HNo.out (by rw [hoo]; rfl)
       go_wp2_with fail
       go_quiet (first | (go_at_call 80; refine Calls.quiet_of_same (h2 _)))
       go_wp2
       go_roundw
       case rel =>
        have hbV : Below wr.heap.size wr (wr.drewN nq) := below_drewN (Below.refl _ wr) nq
        refine ⟨i + 1, _, by omega, rfl, by go_num, ?_, ownsRow_below HBD.out hbV, HBB.out.trans (hbV.mono HBB.out.size)⟩
        rw [HQ.out]
        exact ownsRow_below HOW.out hbV
       case measure => simp [intOf]; omega
    ·obtain rfl : i = L.length := by omega
     have hfz : wr.frozen? ⟨c, 0, none⟩ = false := frozen_of_heap hRr.head
     obtain ⟨av, cv, rfl⟩ : ∃ av cv, v = .slice av (rrevL (L.take L.length) root D).length cv := by
      rcases hown.2 with ⟨e2, e3⟩ | ⟨g', cap', cur, e2, _⟩
      ·exact ⟨none, 0, by rw [e2, e3]⟩
      ·exact ⟨_, _, e2⟩
     have HRr : Hid _ := hRr
     have HOW : Hid _ := hown
     have HBB : Hid _ := hb
     have hcr := hRr.lt
     clear hRr hown hb hbad
     go_wp2
     go_ret2
     have hfull : rrevL (L.take L.length) root D = rrevL L root D := by rw [List.take_length]
     have hQ := HOW.out
     rw [hfull] at hQ
     refine ⟨D, HBad.out, rfl, _, ⟨head0 HRr.out.head _, ?_, ?_⟩, (Upd.of_below HBB.out).trans (Upd.setCell _ _ _ _)⟩
     ·exact ownsRow_mono (ownsRow_at hQ (fun g hg => Below.heap_setCell _ _ _ _ (by have := ownsRow_low hQ g hg
                                                                                    show g ≠ c
                                                                                    omega))) hM
     ·intro e
      exfalso
      have hm : d ∈ rrevL L root D := by
       unfold rrevL
       rw [List.mem_filter]
       exact ⟨HMem.out, by simp [HRO.out]⟩
      rw [e] at hm
      cases hm
end Ca
end Go.Proofs.YtbhpafgoofkkmaaGreatDoor
namespace Go.Proofs.YtbhpafgoofkkmaaGreatDoor
open Go.RowKit
namespace Ca
theorem insI_at (n : Int) : ∀ (i : Nat) (D : List Int), (∀ (j : Nat) (x : Int), j < i → D[j]? = some x → x < n) → i ≤ D.length → (∀ x, D[i]? = some x → ¬ x < n) → insI n D = D.take i ++ n :: D.drop (if D[i]? = some n then i + 1 else i)
 | 0, [], _, _, _ => by simp [insI]
 | 0, a :: l, _, _, h => by
  have := h a (by simp)
  unfold insI
  rw [if_neg this]
  by_cases e : a = n
  ·simp [e]
  ·simp [e]
 | i + 1, [], _, hi, _ => by simp at hi
 | i + 1, a :: l, h1, hi, h2 => by
  have ha := h1 0 a (by omega) (by simp)
  unfold insI
  rw [if_pos ha]
  have ih := insI_at n i l (fun j x hj hx => h1 (j + 1) x (by omega) (by simpa using hx)) (by simpa using hi) (fun x hx => h2 x (by simpa using hx))
  rw [ih]
  simp only [List.getElem?_cons_succ, List.take_succ_cons, List.cons_append]
  congr 2
  by_cases e : l[i]? = some n
  ·simp [e]
  ·simp [e]
theorem elemI : Tryz.prog.elem 46 = 3 := by kernel_rfl
set_option maxRecDepth 100000 in
theorem cut_int (D : List Int) (a : Option Addr) (len cap j : Nat) (hl : len = D.length) (hj : j ≤ len) (W : World) (ha : IRow W a D) (hcap : len ≤ cap) : ∃ a2 c2, (∀ V, (Instr.slice 46 (.slice a len cap) (some (.int .i64 (j : Int))) none none).run Tryz.prog V = .ok (.slice a2 (len - j) c2) V) ∧ (j < len → ∃ ad, a2 = some ad ∧ ∀ i u, (ivs (D.drop j))[i]? = some u → W.cell? (ad.add i) = some u) := by
 obtain ⟨i0, hi0, hzz⟩ := Option.map_eq_some_iff.1 intInfo
 simp only [Prod.mk.injEq] at hzz
 refine ⟨if cap = j then a else a.map (·.add (j * 1)), cap - j, fun V => ?_, fun hlt => ?_⟩
 ·have hk0 : (j : Int) ≤ (len : Int) := by omega
  rw [run_slice_l V 46 _ _ _ Tryz.underlying46 _ _ (by omega) hk0]
  simp [sizeOf, typeInfo, elemI, hi0, sliced, hzz.2.1]
 ·have hj2 : j < D.length := by omega
  obtain ⟨ga, oa, rfl, hc⟩ := ha j _ (List.getElem?_eq_getElem hj2)
  refine ⟨⟨ga, oa + j, none⟩, ?_, fun i u hu => ?_⟩
  ·rw [if_neg (by omega)]
   simp [Addr.add]
  ·have hu2 : (D.drop j)[i]?.map (Value.int .i64) = some u := by
    rw [← hu]
    simp [ivs]
   obtain ⟨x, hx, rfl⟩ := Option.map_eq_some_iff.1 hu2
   rw [List.getElem?_drop] at hx
   obtain ⟨ga', oa', e, hc'⟩ := ha (j + i) x hx
   simp only [Option.some.injEq, Addr.mk.injEq] at e
   obtain ⟨rfl, rfl, _⟩ := e
   have e2 : (⟨ga, oa + j, none⟩ : Addr).add i = ⟨ga, oa + j + i, none⟩ := by unfold Addr.add; split <;> simp_all
   rw [e2, Nat.add_assoc]
   exact hc'
theorem ivs_len (l : List Int) : (ivs l).length = l.length := by simp [ivs]
theorem ivs_one (l : List Int) : ∀ u ∈ ivs l, u.oneCell' = true := by
 intro u hu
 simp only [ivs, List.mem_map] at hu
 obtain ⟨x, _, rfl⟩ := hu
 rfl
theorem ivs_app (l m : List Int) : ivs (l ++ m) = ivs l ++ ivs m := by simp [ivs]
theorem own_le1 {w : World} {base : Nat} {e : TypeId} {size g n cap : Nat} {xs : List Value} (h : w.ownsRow base e size (.slice (some ⟨g, 0, none⟩) n cap) n xs) : n ≤ cap := by
 rcases h.2 with ⟨e2, _⟩ | ⟨g', cap', cur, e2, _, _, q, _⟩
 ·cases e2
 ·simp only [Value.slice.injEq] at e2
  omega
theorem wpList_append_eq {P : Program} {w w' : World} {ops : Array Oper} {rest : List Oper} {o : Oper} {a : Act} {Q : Exit → Act → World → Prop} (hgd : o.guard = none) (s x : Operand) (t : TypeId)
  (ho : o.op = .call { callee := .builtin .append, args := #[s, x], argTypes := #[t, t] }) (sv xv r : Value) (hs : a.eval s = sv) (hx : a.eval x = xv) (hr : ∀ ty, (Builtin.append_ #[t, t] ty #[sv, xv]).run P w = .ok r w')
  (h : wpList P ops Q rest (a.put o.dst r) w') : wpList P ops Q (o :: rest) a w := by
 refine wpList_plain hgd fun K hK => ?_
 unfold Oper.wp
 simp [execOp, ho, resolve, invoke, builtin, hs, hx, hr, Result.andThen]
 exact hK _ _ h
set_option maxRecDepth 100000 in
set_option maxHeartbeats 4000000 in
theorem rputi_at (D : List Int) (a : Option Addr) (cap : Nat) (n : Int) (w : World) (ha : IRow w a D) (hl : D.length ≤ 1000) (hcap : D.length ≤ cap) :
  Calls Tryz.prog 50 #[.slice a D.length cap, .int .i64 n] w fun e w' => ∃ v, e = .returned v ∧ w'.ownsRow w.heap.size 3 1 v (insI n D).length (ivs (insI n D)) ∧ Below w.heap.size w w' := by
 obtain ⟨i0, hi0, hzz⟩ := Option.map_eq_some_iff.1 intInfo
 simp only [Prod.mk.injEq] at hzz
 obtain ⟨hz0, hz1, hz2⟩ := hzz
 have HA : Hid _ := ha
 clear ha
 obtain ⟨len, hlen⟩ : ∃ len, len = D.length := ⟨_, rfl⟩
 have HLen : Hid _ := hlen
 rw [← hlen] at hl hcap ⊢
 clear hlen
 go_enter Tryz.func50, Tryz.ntmps50
 go_wp2
 go_loopw [5, 6] (fun s5 s6 wr => ∃ (i : Nat) (v : Value), i ≤ len ∧ v = s5 ∧ s6 = .int .i64 i ∧ wr.ownsRow w.heap.size 3 1 v i (ivs (D.take i)) ∧ Hid (∀ (j : Nat) (x : Int), j < i → D[j]? = some x → x < n) ∧ Below w.heap.size w wr) (fun _ s6 _ => len - (intOf s6).toNat)
 case atStart => exact ⟨0, _, by omega, rfl, rfl, World.ownsRow_nil _ _ _ _, (show Hid _ from fun j x hj => absurd hj (Nat.not_lt_zero _)), Below.refl _ _⟩
 case round =>
  obtain ⟨i, v, hi, rfl, rfl, hown, HN, hb⟩ := hrel
  have HO : Hid _ := hown
  have HOA : Hid (∀ o, (wr.alloc o).ownsRow w.heap.size 3 1 v i (ivs (D.take i))) := fun o => hown.alloc o
  have HB : Hid _ := hb
  have hws := hb.size
  have hown9 := hown
  clear hown hb
  by_cases hlt : i < len
  ·obtain ⟨x, hx⟩ : ∃ x, D[i]? = some x := ⟨D[i]'(by rw [← HLen.out]; exact hlt), List.getElem?_eq_getElem _⟩
   obtain ⟨ga, oa, rfl, c0⟩ := HA.out i x hx
   have c1 := (HB.out.cell (cell_lt c0)).trans c0
   have hii : (i : Int) < (len : Int) := by omega
   by_cases hxn : x < n
   ·have gd : decide (x < n) = true := decide_eq_true hxn
    have HT : Hid (D.take (i + 1) = D.take i ++ [x]) := by
     obtain ⟨h1, rfl⟩ := List.getElem?_eq_some_iff.1 hx
     show D.take (i + 1) = D.take i ++ [D[i]]
     simp
    have HN2 : Hid (∀ (j : Nat) (y : Int), j < i + 1 → D[j]? = some y → y < n) := by
     intro j y hj hy
     by_cases e : j = i
     ·rw [e, hx] at hy
      cases hy
      exact hxn
     ·exact HN.out j y (by omega) hy
    clear hx hxn hown9
    go_wp2_with (at_builtin; refine wpList_append_lies _ rfl _ _ _ rfl w.heap.size 3 i0 _ 1 8 Tryz.underlying46 hi0 hz0 hz1 hz2 rfl (by omega) v i (ivs (D.take i)) rfl (HOA.out _) ⟨wr.heap.size, 0, none⟩ 1 1 [.int .i64 x] rfl rfl (World.news_of_block (cs := #[.int .i64 x]) (t := 3) (fr := (0, 0)) (heap_alloc_new _ _)) (by simp [Value.oneCell']) (by omega) (by unfold maxLen; omega) (by omega) (by simp; omega) _ rfl ?_; intro gg capx w2 hown2 hgrow hat hlt2)
    go_roundw
    case rel =>
     refine ⟨i + 1, _, by omega, rfl, by go_num, ?_, HN2, (HB.out.alloc hws _).trans (below_grown hgrow (by simp; omega) (ownsRow_low HO.out))⟩
     rw [HT.out, ivs_app]
     exact hown2
    case measure => simp [intOf]; omega
   ·have gd : decide (x < n) = false := decide_eq_false hxn
    by_cases hxe : x = n
    ·have ge : (x == n) = true := by simp [hxe]
     by_cases hj1 : i + 1 < len
     ·have HI : Hid (insI n D = D.take i ++ n :: D.drop (i + 1)) := by
       show insI n D = _
       rw [insI_at n i D HN.out (by have := HLen.out; omega) (fun y hy => by rw [hx] at hy; cases hy; exact hxn), if_pos (by rw [hx, hxe])]
      obtain ⟨a2, c2, hs2, hcells⟩ := cut_int D _ len cap (i + 1) HLen.out (by omega) w HA.out hcap
      obtain ⟨ad, rfl, hnw⟩ := hcells (by omega)
      have HNW : Hid _ := hnw
      have HDL : Hid ((ivs (D.drop (i + 1))).length = (len - (i + 1)) * 1) := by
       show (ivs (D.drop (i + 1))).length = (len - (i + 1)) * 1
       have := HLen.out
       rw [ivs_len, List.length_drop]
       omega
      rw [show ((i + 1 : Nat) : Int) = (i : Int) + 1 by omega] at hs2
      clear hnw HA HN hown9 hx hxe hxn
      go_wp2_with (first | (at_builtin; refine wpList_append_lies _ rfl (.tmp 28) (.tmp 30) _ rfl w.heap.size 3 i0 _ 1 8 Tryz.underlying46 hi0 hz0 hz1 hz2 rfl (by omega) v i (ivs (D.take i)) rfl (HOA.out _) ⟨wr.heap.size, 0, none⟩ 1 1 [.int .i64 n] rfl rfl (World.news_of_block (cs := #[.int .i64 n]) (t := 3) (fr := (0, 0)) (heap_alloc_new _ _)) (by simp [Value.oneCell']) (by omega) (by unfold maxLen; omega) (by omega) (by simp; omega) _ rfl ?_; intro g2 cap2 w2 hown2 hgrow2 hat2 hlt2; have B2 : Below w.heap.size w w2 := (HB.out.alloc hws _).trans (below_grown hgrow2 (by simp; omega) (ownsRow_low HO.out)); have c3x := (B2.cell (cell_lt c0)).trans c0) | (at_builtin; refine wpList_append_lies _ rfl (.tmp 46) (.tmp 49) _ rfl w.heap.size 3 i0 _ 1 8 Tryz.underlying46 hi0 hz0 hz1 hz2 rfl (by omega) (.slice (some ⟨g2, 0, none⟩) (i + 1) cap2) (i + 1) (ivs (D.take i) ++ [.int .i64 n]) rfl hown2 ad (len - (i + 1)) c2 (ivs (D.drop ((i + 1)))) rfl HDL.out (fun t u hu => (B2.cell (cell_lt (HNW.out t u hu))).trans (HNW.out t u hu)) (ivs_one _) (by omega) (by unfold maxLen; omega) (by omega) B2.size _ rfl ?_; intro g3 cap3 w3 hown3 hgrow3 hat3 hlt3))
      go_ret
      refine ⟨_, rfl, ?_, B2.trans (below_grown hgrow3 B2.size (ownsRow_low hown2))⟩
      have e1 : (insI n D).length = i + 1 + (len - (i + 1)) := by
       have := HLen.out
       rw [HI.out, List.length_append, List.length_take, List.length_cons, List.length_drop]
       omega
      have e2 : ivs (insI n D) = ivs (D.take i) ++ [.int .i64 n] ++ ivs (D.drop (i + 1)) := by
       rw [HI.out, ivs_app]
       simp [ivs]
      rw [e1, e2]
      exact hown3
     ·have HI : Hid (insI n D = D.take i ++ [n]) := by
       show insI n D = D.take i ++ [n]
       rw [insI_at n i D HN.out (by have := HLen.out; omega) (fun y hy => by rw [hx] at hy; cases hy; exact hxn), if_pos (by rw [hx, hxe]), List.drop_eq_nil_of_le (by have := HLen.out; omega)]
      obtain ⟨a2, c2, hs2, _⟩ := cut_int D _ len cap (i + 1) HLen.out (by omega) w HA.out hcap
      have HZ : Hid (∀ (V : World) (g1 cap1 : Nat), i + 1 ≤ cap1 → ∀ ty, (Builtin.append_ #[46, 46] ty #[.slice (some ⟨g1, 0, none⟩) (i + 1) cap1, .slice a2 (len - (i + 1)) c2]).run Tryz.prog V = .ok (.slice (some ⟨g1, 0, none⟩) (i + 1) cap1) V) := by
       intro V g1 cap1 hle ty
       rw [show len - (i + 1) = 0 by omega]
       exact run_append_zero V _ _ i0 Tryz.underlying46 hi0 _ _ _ _ _ hle ty
      rw [show ((i + 1 : Nat) : Int) = (i : Int) + 1 by omega] at hs2
      clear HA HN hown9 hx hxe hxn
      go_wp2_with (first | (at_builtin; refine wpList_append_lies _ rfl (.tmp 28) (.tmp 30) _ rfl w.heap.size 3 i0 _ 1 8 Tryz.underlying46 hi0 hz0 hz1 hz2 rfl (by omega) v i (ivs (D.take i)) rfl (HOA.out _) ⟨wr.heap.size, 0, none⟩ 1 1 [.int .i64 n] rfl rfl (World.news_of_block (cs := #[.int .i64 n]) (t := 3) (fr := (0, 0)) (heap_alloc_new _ _)) (by simp [Value.oneCell']) (by omega) (by unfold maxLen; omega) (by omega) (by simp; omega) _ rfl ?_; intro g2 cap2 w2 hown2 hgrow2 hat2 hlt2; have B2 : Below w.heap.size w w2 := (HB.out.alloc hws _).trans (below_grown hgrow2 (by simp; omega) (ownsRow_low HO.out)); have c3x := (B2.cell (cell_lt c0)).trans c0) | (at_builtin; refine wpList_append_eq rfl (.tmp 46) (.tmp 49) _ rfl (.slice (some ⟨g2, 0, none⟩) (i + 1) cap2) (.slice a2 (len - (i + 1)) c2) (.slice (some ⟨g2, 0, none⟩) (i + 1) cap2) rfl rfl (HZ.out w2 g2 cap2 (own_le1 hown2)) ?_))
      go_ret
      refine ⟨_, rfl, ?_, B2⟩
      have e1 : (insI n D).length = i + 1 := by
       have := HLen.out
       rw [HI.out, List.length_append, List.length_take]
       simp
       omega
      have e2 : ivs (insI n D) = ivs (D.take i) ++ [.int .i64 n] := by
       rw [HI.out, ivs_app]
       simp [ivs]
      rw [e1, e2]
      exact hown2
    ·have ge : (x == n) = false := by simp [hxe]
     have HI : Hid (insI n D = D.take i ++ n :: D.drop (i)) := by
      show insI n D = _
      rw [insI_at n i D HN.out (by have := HLen.out; omega) (fun y hy => by rw [hx] at hy; cases hy; exact hxn), if_neg (by rw [hx]; simpa using hxe)]
     obtain ⟨a2, c2, hs2, hcells⟩ := cut_int D _ len cap (i) HLen.out (by omega) w HA.out hcap
     obtain ⟨ad, rfl, hnw⟩ := hcells (by omega)
     have HNW : Hid _ := hnw
     have HDL : Hid ((ivs (D.drop (i))).length = (len - (i)) * 1) := by
      show (ivs (D.drop (i))).length = (len - (i)) * 1
      have := HLen.out
      rw [ivs_len, List.length_drop]
      omega
     clear hnw HA HN hown9 hx hxe hxn
     go_wp2_with (first | (at_builtin; refine wpList_append_lies _ rfl (.tmp 28) (.tmp 30) _ rfl w.heap.size 3 i0 _ 1 8 Tryz.underlying46 hi0 hz0 hz1 hz2 rfl (by omega) v i (ivs (D.take i)) rfl (HOA.out _) ⟨wr.heap.size, 0, none⟩ 1 1 [.int .i64 n] rfl rfl (World.news_of_block (cs := #[.int .i64 n]) (t := 3) (fr := (0, 0)) (heap_alloc_new _ _)) (by simp [Value.oneCell']) (by omega) (by unfold maxLen; omega) (by omega) (by simp; omega) _ rfl ?_; intro g2 cap2 w2 hown2 hgrow2 hat2 hlt2; have B2 : Below w.heap.size w w2 := (HB.out.alloc hws _).trans (below_grown hgrow2 (by simp; omega) (ownsRow_low HO.out)); have c3x := (B2.cell (cell_lt c0)).trans c0) | (at_builtin; refine wpList_append_lies _ rfl (.tmp 46) (.tmp 49) _ rfl w.heap.size 3 i0 _ 1 8 Tryz.underlying46 hi0 hz0 hz1 hz2 rfl (by omega) (.slice (some ⟨g2, 0, none⟩) (i + 1) cap2) (i + 1) (ivs (D.take i) ++ [.int .i64 n]) rfl hown2 ad (len - i) c2 (ivs (D.drop (i))) rfl HDL.out (fun t u hu => (B2.cell (cell_lt (HNW.out t u hu))).trans (HNW.out t u hu)) (ivs_one _) (by omega) (by unfold maxLen; omega) (by omega) B2.size _ rfl ?_; intro g3 cap3 w3 hown3 hgrow3 hat3 hlt3))
     go_ret
     refine ⟨_, rfl, ?_, B2.trans (below_grown hgrow3 B2.size (ownsRow_low hown2))⟩
     have e1 : (insI n D).length = i + 1 + (len - (i)) := by
      have := HLen.out
      rw [HI.out, List.length_append, List.length_take, List.length_cons, List.length_drop]
      omega
     have e2 : ivs (insI n D) = ivs (D.take i) ++ [.int .i64 n] ++ ivs (D.drop (i)) := by
      rw [HI.out, ivs_app]
      simp [ivs]
     rw [e1, e2]
     exact hown3
  ·obtain rfl : i = len := by omega
   have HI : Hid (insI n D = D.take i ++ [n]) := by
    show insI n D = D.take i ++ [n]
    rw [insI_at n i D HN.out (by have := HLen.out; omega) (fun y hy => by have h9 := (List.getElem?_eq_some_iff.1 hy).1; have := HLen.out; omega), List.drop_eq_nil_of_le (by have := HLen.out; split <;> omega)]
   obtain ⟨a2, c2, hs2, _⟩ := cut_int D _ i cap (i) HLen.out (by omega) w HA.out hcap
   rw [Nat.sub_self] at hs2
   have HZ : Hid (∀ (V : World) (g1 cap1 : Nat), i + 1 ≤ cap1 → ∀ ty, (Builtin.append_ #[46, 46] ty #[.slice (some ⟨g1, 0, none⟩) (i + 1) cap1, .slice a2 0 c2]).run Tryz.prog V = .ok (.slice (some ⟨g1, 0, none⟩) (i + 1) cap1) V) := by
    intro V g1 cap1 hle ty
    exact run_append_zero V _ _ i0 Tryz.underlying46 hi0 _ _ _ _ _ hle ty
   clear HA HN hown9
   go_wp2_with (first | (at_builtin; refine wpList_append_lies _ rfl (.tmp 28) (.tmp 30) _ rfl w.heap.size 3 i0 _ 1 8 Tryz.underlying46 hi0 hz0 hz1 hz2 rfl (by omega) v i (ivs (D.take i)) rfl (HOA.out _) ⟨wr.heap.size, 0, none⟩ 1 1 [.int .i64 n] rfl rfl (World.news_of_block (cs := #[.int .i64 n]) (t := 3) (fr := (0, 0)) (heap_alloc_new _ _)) (by simp [Value.oneCell']) (by omega) (by unfold maxLen; omega) (by omega) (by simp; omega) _ rfl ?_; intro g2 cap2 w2 hown2 hgrow2 hat2 hlt2; have B2 : Below w.heap.size w w2 := (HB.out.alloc hws _).trans (below_grown hgrow2 (by simp; omega) (ownsRow_low HO.out))) | (at_builtin; refine wpList_append_eq rfl (.tmp 46) (.tmp 49) _ rfl (.slice (some ⟨g2, 0, none⟩) (i + 1) cap2) (.slice a2 0 c2) (.slice (some ⟨g2, 0, none⟩) (i + 1) cap2) rfl rfl (HZ.out w2 g2 cap2 (own_le1 hown2)) ?_))
   go_ret
   refine ⟨_, rfl, ?_, B2⟩
   have e1 : (insI n D).length = i + 1 := by
    have := HLen.out
    rw [HI.out, List.length_append, List.length_take]
    simp
    omega
   have e2 : ivs (insI n D) = ivs (D.take i) ++ [.int .i64 n] := by
    rw [HI.out, ivs_app]
    simp [ivs]
   rw [e1, e2]
   exact hown2
theorem holdL_snoc {K I : Int} {L : List Ce} {i : Nat} {e : Ce} (he : L[i]? = some e) : holdL K I (L.take (i + 1)) = if hitB e.x K I 0 = true then insI e.env (holdL K I (L.take i)) else holdL K I (L.take i) := by
 obtain ⟨hi, rfl⟩ := List.getElem?_eq_some_iff.1 he
 unfold holdL
 rw [show L.take (i + 1) = L.take i ++ [L[i]] by simp, List.foldl_append]
 rfl
theorem holdL_len (K I : Int) : ∀ (L : List Ce) (l : List Int), (L.foldl (fun l c => if hitB c.x K I 0 = true then insI c.env l else l) l).length ≤ l.length + L.length
 | [], l => by simp
 | c :: L, l => by
  rw [List.foldl_cons]
  split
  ·have := holdL_len K I L (insI c.env l)
   have := insI_len c.env l
   simp
   omega
  ·have := holdL_len K I L l
   simp
   omega
set_option maxHeartbeats 2000000 in
theorem rhold_at (M c : Nat) (sv : Value) (L : List Ce) (last K I : Int) (w : World) (h : RefAt M w c sv L last) (hl : L.length ≤ 900) (hS : RSanes L) (hI : I64 I) :
  Calls Tryz.prog 18 #[.pointer (some ⟨c, 0, none⟩), .int .i64 K, .int .i64 I] w fun e w' => ∃ v, e = .returned v ∧ w'.ownsRow w.heap.size 3 1 v (holdL K I L).length (ivs (holdL K I L)) ∧ Below w.heap.size w w' := by
 obtain ⟨a, cap, hsv⟩ := h.form
 have HH : Hid _ := h
 have HS : Hid (RSanes L) := hS
 have HI : Hid (I64 I) := hI
 clear h hS hI
 subst hsv
 go_enter Tryz.func18, Tryz.ntmps18
 go_wp2
 go_loopw [7, 8] (fun s7 s8 wr => ∃ (i : Nat) (v : Value), i ≤ L.length ∧ v = s7 ∧ s8 = .int .i64 i ∧ wr.ownsRow w.heap.size 3 1 v (holdL K I (L.take i)).length (ivs (holdL K I (L.take i))) ∧ Below w.heap.size w wr) (fun _ s8 _ => L.length - (intOf s8).toNat)
 case atStart => exact ⟨0, _, by omega, rfl, rfl, World.ownsRow_nil _ _ _ _, Below.refl _ _⟩
 case round =>
  obtain ⟨i, v, hi, rfl, rfl, hown, hb⟩ := hrel
  have hR := HH.out.below hb
  have c0 := hR.c0
  by_cases hlt : i < L.length
  ·obtain ⟨e, he⟩ : ∃ e, L[i]? = some e := ⟨L[i], List.getElem?_eq_getElem hlt⟩
   obtain ⟨g, cap', esv, ⟨⟨d0, d1, d2, d3⟩, d4, d5, d6, d7⟩⟩ := hR.at he
   simp only [Value.slice.injEq] at esv
   obtain ⟨rfl, _, rfl⟩ := esv
   have hcall := rcovers_at e.x K I 0 wr (HS.out e (List.mem_of_getElem? he)) HI.out
   have HSn : Hid _ := holdL_snoc (K := K) (I := I) he
   have hlen : (holdL K I (L.take i)).length ≤ 900 := by
    have := holdL_len K I (L.take i) []
    unfold holdL
    simp only [List.length_nil, List.length_take] at this
    omega
   obtain ⟨av, cv, rfl, hrow⟩ := own_irow hown
   have hcv : (holdL K I (L.take i)).length ≤ cv := by
    rcases hown.2 with ⟨e1, e2⟩ | ⟨_, _, _, e1, _, _, q, _⟩
    ·simp only [Value.slice.injEq] at e1
     omega
    ·simp only [Value.slice.injEq] at e1
     omega
   have HOW : Hid _ := hown
   have HRo : Hid _ := hrow
   have HB : Hid _ := hb
   have hii : (i : Int) < (L.length : Int) := by omega
   have HRR : Hid _ := hR
   clear he hown hrow hb hR
   obtain ⟨no, ob, env, slot, ⟨x0, x1, x2, x3⟩⟩ := e
   dsimp only [cpRow] at *
   generalize holdL K I (L.take i) = D at *
   generalize hitB ⟨x0, x1, x2, x3⟩ K I 0 = B at *
   cases B with
   | false =>
    have HQ : Hid _ := HSn.out.trans (if_neg (by simp))
    clear HSn
    go_wp2_with fail
    refine hcall.mono ?_
    rintro e w1 ⟨rfl, hb1⟩
    clear hcall d0 d1 d2 d3 d4 d5 d6 d7 c0
    go_wp2
    go_roundw
    case rel =>
     refine ⟨i + 1, _, by omega, rfl, by go_num, ?_, HB.out.trans (hb1.mono HB.out.size)⟩
     rw [HQ.out]
     exact ownsRow_below HOW.out hb1
    case measure => simp [intOf]; omega
   | true =>
    have HQ : Hid _ := HSn.out.trans (if_pos rfl)
    clear HSn
    go_wp2_with fail
    refine hcall.mono ?_
    rintro e w1 ⟨rfl, hb1⟩
    have hR1 := HRR.out.below hb1
    have p0 := hR1.c0
    have p2 := (hb1.cell (cell_lt d2)).trans d2
    have hput := rputi_at D av cv env w1 (IRow.below HRo.out hb1) (by omega) hcv
    have HB1 : Hid _ := HB.out.trans (hb1.mono HB.out.size)
    have hs1 := HB1.out.size
    clear hcall d0 d1 d2 d3 d4 d5 d6 d7 c0 hR1 hb1
    go_wp2_with fail
    refine hput.mono ?_
    rintro e w2 ⟨v2, rfl, hown2, hb2⟩
    go_wp2
    go_roundw
    case rel =>
     refine ⟨i + 1, _, by omega, rfl, by go_num, ?_, HB1.out.trans (hb2.mono hs1)⟩
     rw [HQ.out]
     exact ownsRow_mono hown2 hs1
    case measure => simp [intOf]; omega
  ·obtain rfl : i = L.length := by omega
   rw [List.take_length] at hown
   clear hR
   go_wp2
   go_ret
   exact ⟨_, rfl, hown, hb⟩
end Ca
end Go.Proofs.YtbhpafgoofkkmaaGreatDoor
namespace Go.Proofs.YtbhpafgoofkkmaaGreatDoor
open Go.RowKit
namespace Ca
section
variable {T : Tab} {L : List Ce} {last : Int}
theorem rputL_len (L : List Ce) (last n ob : Int) (x : Cp) : (rputL L last n ob x).length ≤ L.length + 1 := by
 unfold rputL
 split
 ·omega
 ·simp
theorem rputN_le (L : List Ce) (last n : Int) : last ≤ rputN L last n ∧ rputN L last n ≤ last + 1 := by
 unfold rputN
 split <;> omega
theorem Rel.add (h : Rel T L last) (hl : 0 ≤ last) (n : Int) (x : Cp) : addA T n x = raddA L n x ∧ addR T n x = raddE L n x ∧ Rel (addT T n x) (raddL L last n x) (raddN L last n x) ∧ (raddL L last n x).length ≤ L.length + 1 ∧ last ≤ raddN L last n x ∧ raddN L last n x ≤ last + 1 := by
 unfold addA addR addT raddA raddE raddL raddN
 by_cases ho : addOK n x = true
 ·have h2 := ho
  simp only [addOK, Bool.and_eq_true] at h2
  rw [if_pos ho, if_pos ho, if_pos ho, if_pos ho, if_pos ho, if_pos ho, if_pos ho]
  exact ⟨(h.free h2.1).symm, (h.putE h2.1).symm, h.put h2.1 hl x h2.2 0 0 0 (Or.inl ⟨rfl, rfl, rfl⟩), rputL_len _ _ _ _ _, (rputN_le _ _ _).1, (rputN_le _ _ _).2⟩
 ·rw [if_neg ho, if_neg ho, if_neg ho, if_neg ho, if_neg ho, if_neg ho, if_neg ho]
  exact ⟨rfl, rfl, h, by omega, by omega, by omega⟩
theorem Rel.giveNo {n s : Int} (hi : (getT T n s).is = false) (tg r : Int) : giveA T n s tg r = 0 ∧ giveR T n s tg r = 104 ∧ giveT T n s tg r = T := by
 have ho : giveOK T n s r = false := by unfold giveOK; rw [hi]; rfl
 unfold giveA giveR giveT
 rw [ho]
 exact ⟨rfl, rfl, rfl⟩
theorem Rel.give (h : Rel T L last) (hl : 0 ≤ last) {d : Ce} (hd : d ∈ L) (hg : getT T d.env d.slot = d.x) (hi : (getT T d.env d.slot).is = true) (tg r : Int) : giveA T d.env d.slot tg r = rgiveA L d.x tg r ∧ giveR T d.env d.slot tg r = rgiveE L d.x tg r ∧ Rel (giveT T d.env d.slot tg r) (rgiveL L last d tg r) (rgiveN L last d tg r) ∧ (rgiveL L last d tg r).length ≤ L.length + 1 ∧ last ≤ rgiveN L last d tg r ∧ rgiveN L last d tg r ≤ last + 1 := by
 have ho : giveOK T d.env d.slot r = mayG d.x r := by unfold giveOK; rw [hi, hg]; rfl
 have hH : giveH T d.env d.slot r = ⟨⟨d.x.kind, d.x.id, d.x.len, r⟩, d.env, d.slot⟩ := by unfold giveH; rw [hg]
 unfold giveA giveR giveT rgiveA rgiveE rgiveL rgiveN
 rw [ho, hH]
 by_cases hm : mayG d.x r = true
 ·by_cases ht : isE tg = true
  ·simp only [hm, ht, if_true]
   refine ⟨(h.free ht).symm, (h.putE ht).symm, h.put ht hl _ ?_ d.no d.env d.slot (Or.inr ⟨d, hd, rfl, rfl, rfl⟩), rputL_len _ _ _ _ _, (rputN_le _ _ _).1, (rputN_le _ _ _).2⟩
   have h1 := h.may d hd
   simp only [mayB, Bool.and_eq_true] at h1 ⊢
   simp only [mayG, Bool.and_eq_true] at hm
   exact ⟨h1.1, hm.1.2⟩
  ·rw [if_pos hm, if_pos hm, if_pos hm, if_pos hm, if_pos hm, if_pos hm, if_pos hm, if_neg ht, if_neg ht, if_neg ht, if_neg ht, if_neg ht, if_neg ht, if_neg ht]
   exact ⟨rfl, rfl, h, by omega, by omega, by omega⟩
 ·rw [if_neg hm, if_neg hm, if_neg hm, if_neg hm, if_neg hm, if_neg hm, if_neg hm]
  exact ⟨rfl, rfl, h, by omega, by omega, by omega⟩
end
structure Both (w : World) (b c : Nat) (T : Tab) (L : List Ce) (last : Int) : Prop where
 caps : CapsAt w b T
 ref : ∃ sv, RefAt (c + 1) w c sv L last
 rel : Rel T L last
 bc : b < c
 pos : 0 ≤ last
end Ca
end Go.Proofs.YtbhpafgoofkkmaaGreatDoor
