/- januslaw09.do: any deed. -/
import Derived.Test.YtfnafjddajgahaaGreatDoB9
import Derived.Test.YtfnafjddajgahaaGreatDoC9
namespace Go.Proofs.YtfnafjddajgahaaGreat
open Go.RowKit Ca
set_option linter.unusedVariables false

/-- The words behind a deed. -/
def stV (n : Nat) (d : Dd) (vs : List Int) (T : Tab) (F : Pages) : List Int :=
  if d.kind = 0 then allocV T n d.env vs else if d.kind = 7 then kstoreV n vs F d.env d.addr d.v else if d.kind = 8 then kcopyV T n vs d.env d.slot d.n else if d.kind = 10 then kwriteV T n vs d.env d.slot d.n d.v else vs
/-- The slots behind a deed. -/
def stT (n : Nat) (d : Dd) (T : Tab) : Tab :=
  if d.kind = 0 then allocT T n d.env else if d.kind = 1 then giveT T d.env d.slot d.dst d.n else if d.kind = 2 then dropT T d.env d.slot else if d.kind = 3 then revT T d.env d.slot else if d.kind < 0 ∨ 10 < d.kind then goneT T d.env 64 else T
/-- The pages behind a deed. -/
def stF (d : Dd) (T : Tab) (F : Pages) : Pages :=
  if d.kind = 2 then tidyF (dropT T d.env d.slot) F else if d.kind = 3 then tidyF (revT T d.env d.slot) F else if d.kind = 4 then kmapF T F d.env d.n d.slot d.w else if d.kind = 5 then kunmapF F d.env d.n else if d.kind < 0 ∨ 10 < d.kind then tidyF (goneT T d.env 64) F else F

theorem do_at {w : World} {K X n R : Nat} {Y : Lay} {Q : RLay} {vs : List Int} {T : Tab} {F : Pages} {L : List Ce} {last : Int} (h : Duo w K Y X Q n R vs T F L last) (hl : L.length ≤ 800) (ht : last ≤ 800) (d : Dd) (hd : d.Fit) :
    Calls Tryz.prog 9 #[ptr K, ptr X, .agg (ddRow d)] w fun x w' => x = .returned (.bool true) ∧ DoneD w w' K Y X Q n R (stV n d vs T F) (stT n d T) (stF d T F) L last := by
  obtain ⟨k, e, s, q, r, b, a, v⟩ := d
  have ha := hd.fa
  dsimp only at ha
  by_cases hk : k < 0 ∨ 10 < k
  · have e1 : stV n ⟨k, e, s, q, r, b, a, v⟩ vs T F = vs := by
      unfold stV
      dsimp only
      rw [if_neg (by omega), if_neg (by omega), if_neg (by omega), if_neg (by omega)]
    have e2 : stT n ⟨k, e, s, q, r, b, a, v⟩ T = goneT T e 64 := by
      unfold stT
      dsimp only
      rw [if_neg (by omega), if_neg (by omega), if_neg (by omega), if_neg (by omega), if_pos hk]
    have e3 : stF ⟨k, e, s, q, r, b, a, v⟩ T F = tidyF (goneT T e 64) F := by
      unfold stF
      dsimp only
      rw [if_neg (by omega), if_neg (by omega), if_neg (by omega), if_neg (by omega), if_pos hk]
    rw [e1, e2, e3]
    exact do_gone h hl ht k e s q r b a v hk
  · have hc : k = 0 ∨ k = 1 ∨ k = 2 ∨ k = 3 ∨ k = 4 ∨ k = 5 ∨ k = 6 ∨ k = 7 ∨ k = 8 ∨ k = 9 ∨ k = 10 := by omega
    clear hk hd
    rcases hc with rfl | rfl | rfl | rfl | rfl | rfl | rfl | rfl | rfl | rfl | rfl
    · exact do_0 h hl ht e s q r b a v
    · exact do_1 h hl ht e s q r b a v
    · exact do_2 h hl ht e s q r b a v
    · exact do_3 h hl ht e s q r b a v
    · exact do_4 h hl ht e s q r b a v
    · exact do_5 h hl ht e s q r b a v
    · exact do_6 h hl ht e s q r b a v ha
    · exact do_7 h hl ht e s q r b a v ha
    · exact do_8 h hl ht e s q r b a v
    · exact do_9 h hl ht e s q r b a v
    · exact do_10 h hl ht e s q r b a v

section
variable {w W w1 w2 : World} {K X n R : Nat} {Y : Lay} {Q : RLay} {vs : List Int} {T : Tab} {F : Pages} {L : List Ce} {last : Int}
/-- Both kernels, made behind w: all that they write is theirs. -/
structure Own2 (w : World) (Y : Lay) (X : Nat) (Q : RLay) (n R : Nat) : Prop where
  o1 : ∀ b, Foot Y b → w.heap.size ≤ b
  o2 : w.heap.size ≤ R
theorem Own2.feet (h : Own2 w Y X Q n R) (hd : Duo W K Y X Q n R vs T F L last) : ∀ b, BFoot Y X Q n b → w.heap.size ≤ b := by
  rintro b (e | e)
  · exact h.o1 b e
  · have := hd.rf b e
    have := h.o2
    omega
/-- A law's world behind both kernels' calls. -/
theorem both_below (ho : Own2 w Y X Q n R) (hd : Duo W K Y X Q n R vs T F L last) (hb : Below w.heap.size w W) (hu : UpdP (BFoot Y X Q n) W w1) : Below w.heap.size w w1 := hb.trans (hu.below (ho.feet hd) hb.size)

/-- Two new kernels. -/
theorem duo_new (nn : Int) (w : World) (h1 : 1 ≤ nn) (h2 : nn ≤ 1024) {w1 w2 : World} {K X : Nat} {Y : Lay} {Q : RLay} (hK : KerAt w1 K Y nn.toNat (List.replicate (nn.toNat * 32) 0) (fun _ => Hd.no) (fun _ _ => none)) (hb1 : Below w.heap.size w w1) (hf : ∀ b, Foot Y b → w.heap.size ≤ b)
    (hR : RkAt w2 X Q nn.toNat (List.replicate (nn.toNat * 32) 0) [] 0 (fun _ _ => none)) (hb2 : Below w1.heap.size w1 w2) (hl : RLow Q nn.toNat w1.heap.size) :
    Duo w2 K Y X Q nn.toNat w1.heap.size (List.replicate (nn.toNat * 32) 0) (fun _ => Hd.no) (fun _ _ => none) [] 0 ∧ Own2 w Y X Q nn.toNat w1.heap.size :=
  ⟨⟨hK.below hb2, hR, Rel.zero, by decide, hK.low, hl⟩, ⟨hf, hb1.size⟩⟩
end
end Go.Proofs.YtfnafjddajgahaaGreat
