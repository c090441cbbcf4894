/- The reference's list of capabilities and the code's slots tell the same of frames (no program). -/
import Derived.Test.YtfnafjddajgahaaGreatExM
import Derived.Test.YtfnafjddajgahaaGreatDo8
namespace Go.Proofs.YtfnafjddajgahaaGreat
open Go.RowKit Ca
set_option linter.unusedVariables false

theorem rel_cnt {T : Tab} {L : List Ce} {last : Int} (h : Rel T L last) (f : Int) : (L.filter (fun d => d.x.id == f)).length = cnt T 768 f := by
  have hp : ((L.filter (fun d => d.x.id == f)).map Ce.j).Perm ((List.range 768).filter (fun j => (T j).x.is && (T j).x.id == f)) := by
    rw [List.perm_ext_iff_of_nodup ((List.filter_sublist.map Ce.j).nodup h.pls) (List.filter_sublist.nodup List.nodup_range)]
    intro j
    simp only [List.mem_map, List.mem_filter, List.mem_range, Bool.and_eq_true, beq_iff_eq]
    constructor
    · rintro ⟨d, ⟨hd, hf⟩, rfl⟩
      have ht := h.tab d hd
      refine ⟨h.lt hd, ?_, ?_⟩
      · rw [ht]; exact mayB_is (h.may d hd)
      · rw [ht]; exact hf
    · rintro ⟨hj, hi, hf⟩
      rcases h.full j hj with e | ⟨d, hd, e⟩
      · rw [e] at hi
        cases hi
      · have ht := h.tab d hd
        rw [e] at ht
        exact ⟨d, ⟨hd, by rw [← ht]; exact hf⟩, e⟩
  have := hp.length_eq
  rw [List.length_map] at this
  exact this

theorem hit_frame {n : Nat} {x : Cp} (h : OkC n x) (i : Int) : hitB x 1 i 0 = (x.id == i) := by
  obtain ⟨h1, h2, h3, h4, h5, h6⟩ := h
  unfold hitB coversB
  rw [among0 _ ⟨by omega, h6⟩, h1, h4]
  have e : (decide (x.id ≤ i) && decide (i - x.id < 1)) = (x.id == i) := by
    by_cases h : x.id = i
    · subst h; simp
    · have : (x.id == i) = false := by simpa using h
      rw [this]
      simp
      omega
  simp [e]
theorem hold_cnt {T : Tab} {n : Nat} (h : KInv T n) (i : Int) : (holdTo T 1 i 12).length = 0 ↔ cnt T 768 i = 0 := by
  rw [cnt_zero]
  unfold holdTo
  rw [List.length_map, List.length_eq_zero_iff, List.filter_eq_nil_iff]
  constructor
  · intro hn j hj hi he
    have h1 := hn (j / 64) (by simp; omega)
    apply h1
    refine hasN_hit (s := j % 64) (by omega) ?_
    rw [show j / 64 * 64 + j % 64 = j from by omega, hit_frame (h.ok hj hi)]
    simpa using he
  · intro hn m hm hh
    rw [List.mem_range] at hm
    have : hasN T m 1 i 0 = false := hasN_miss (fun s hs => by
      rcases h (m * 64 + s) (by omega) with e | e
      · rw [e]; exact hit_no _ _ _
      · rw [hit_frame e]
        have := hn (m * 64 + s) (by omega) e.is
        simpa using this)
    rw [this] at hh
    cases hh
theorem rel_hold {T : Tab} {L : List Ce} {last : Int} {n : Nat} (h : Rel T L last) (hk : KInv T n) (i : Int) : (holdL 1 i L).length = 0 ↔ cnt T 768 i = 0 := by
  rw [← h.hold]
  exact hold_cnt hk i

/-- What links the two kernels. -/
structure Lnk (T : Tab) (L : List Ce) (last : Int) (n : Nat) (F : Pages) : Prop where
  rel : Rel T L last
  inv : KInv T n
  n1 : 1 ≤ n
  n2 : n ≤ 1024
  pg : ∀ e, e < 12 → ∀ p x, F e p = some x → x.1 < n
  pos : 0 ≤ last
  len : L.length ≤ 850
  top : last ≤ 850
theorem Lnk.rsanes {T : Tab} {L : List Ce} {last : Int} {n : Nat} {F : Pages} (h : Lnk T L last n F) : RSanes L := h.rel.rsanes

theorem and_among : ((List.range 8).all fun q => [1, 2, 3].all fun r => (bits .and .i64 (q : Nat) (r : Nat) == (r : Nat)) == among (r : Nat) (q : Nat)) = true := by decide +kernel
theorem and_is {q : Int} (h : 0 ≤ q ∧ q ≤ 7) {r : Int} (hr : r = 1 ∨ r = 2 ∨ r = 3) : (bits .and .i64 q r == r) = among r q := by
  have h1 := and_among
  rw [List.all_eq_true] at h1
  have h2 := h1 q.toNat (by simp; omega)
  rw [List.all_eq_true] at h2
  have hq : ((q.toNat : Nat) : Int) = q := by omega
  rcases hr with rfl | rfl | rfl
  · have := h2 1 (by simp)
    rw [hq] at this
    simpa using this
  · have := h2 2 (by simp)
    rw [hq] at this
    simpa using this
  · have := h2 3 (by simp)
    rw [hq] at this
    simpa using this
end Go.Proofs.YtfnafjddajgahaaGreat
