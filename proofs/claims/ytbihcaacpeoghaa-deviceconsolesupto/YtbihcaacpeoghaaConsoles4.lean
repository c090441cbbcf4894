/- Proved: januslaw04.DeviceConsoles answers true for every input and every list of deeds (each answer, what is left and what was written are the document's), at the commit of this claim; its condition: what the law reads is of bulk at most 1048576. -/
import Derived.Test.YtbihcaacpeoghaaAwake4
import Derived.Test.YtbihcaacpeoghaaBulk
import Derived.BigRegion
import Derived.BigQuiet
import Derived.Deep.QuietTactic
import Derived.Deep.RegionHeld3
import Derived.ProofKit
import Derived.OpenShut
import Derived.ChangeOld
import Derived.ChangeMaps5
import Derived.JoinedCond
import Derived.Below
namespace Go.Proofs.Ytbihcaacpeoghaa
open Go.ChangeShapes Go.WideShapes Go.ChangeAt Go.RowKit Go.Lib
set_option linter.unusedVariables false

theorem glue (x y : List UInt8) : ByteArray.mk x.toArray ++ ByteArray.mk y.toArray = ByteArray.mk (x ++ y).toArray := ByteArray.mk_append_mk x y

/-- So long at most may a text be behind k deeds. -/
def Cap (k : Nat) (o : List UInt8) : Prop := o.length ≤ k * 1048576
theorem Cap.zero : Cap 0 [] := by unfold Cap; simp
theorem Cap.same {k : Nat} {o : List UInt8} (h : Cap k o) : Cap (k + 1) o := Nat.le_trans h (Nat.mul_le_mul_right _ (Nat.le_succ _))
theorem Cap.more {k : Nat} {o s : List UInt8} (h : Cap k o) (hs : s.length ≤ 1048576) : Cap (k + 1) (o ++ s) := by unfold Cap at *; rw [List.length_append]; omega
theorem Cap.room {k : Nat} {o s : List UInt8} (h : Cap k o) (hk : k ≤ 200) (hs : s.length ≤ 1048576) : o.length + s.length ≤ 1000000000 := by unfold Cap at h; omega

/-- Both consoles in the world W; below B it is as w was. -/
structure Duo (w W : World) (B x : Nat) (out out2 l l2 : List UInt8) : Prop where
  con : Con W B B out l
  ref : RCon W x out2 l2
  old : Below B w W
  lo : B ≤ x
  sm : B ≤ w.heap.size
section
variable {w W W' : World} {B x : Nat} {out out2 l l2 : List UInt8}
theorem Duo.size (h : Duo w W B x out out2 l l2) : B ≤ W.heap.size := Nat.le_trans h.sm h.old.size
theorem Duo.below (h : Duo w W B x out out2 l l2) (k : Below W.heap.size W W') : Duo w W' B x out out2 l l2 :=
  ⟨h.con.below k, h.ref.keep (k.block _ (lt_of_heap h.ref)), h.old.trans (k.mono h.size), h.lo, h.sm⟩
theorem Duo.ne (h : Duo w W B x out out2 l l2) : x ≠ B := by
  intro e
  obtain ⟨v, h1, _⟩ := h.con
  have h2 := h.ref
  unfold RCon ConAt at *
  rw [e, h1] at h2
  simp at h2
theorem d_put (h : Duo w W B x out out2 l l2) (s : List UInt8) (hl : out.length + s.length ≤ 1000000000) :
    Calls Try.prog 9 #[.pointer (some ⟨B, 0, none⟩), tx s] W fun e W' => e = .returned (.tuple #[]) ∧ Duo w W' B x (out ++ s) out2 l l2 := by
  refine (put_at B B out l s W h.con (by omega)).mono ?_
  rintro e W' ⟨rfl, hc, hu⟩
  refine ⟨rfl, hc, h.ref.keep (hu.block _ (lt_of_heap h.ref) ?_), h.old.trans (touch_below hu (Nat.le_refl _) h.size), h.lo, h.sm⟩
  rintro (e | ⟨_, cur, e⟩)
  · exact h.ne e
  · have h2 := h.ref
    unfold RCon at h2
    rw [h2] at e
    simp at e
theorem d_get (h : Duo w W B x out out2 l l2) (n : Int) :
    Calls Try.prog 10 #[.pointer (some ⟨B, 0, none⟩), .int .i64 n] W fun e W' => e = .returned (tx (l.take (tk l n))) ∧ Duo w W' B x out out2 (l.drop (tk l n)) l2 := by
  refine (get_at B B out l n W h.con).mono ?_
  rintro e W' ⟨rfl, hc, hu⟩
  exact ⟨rfl, hc, h.ref.keep (hu.block _ (lt_of_heap h.ref) h.ne), h.old.trans (hu.below (Nat.le_refl _) h.size), h.lo, h.sm⟩
theorem Duo.updX {o' l' : List UInt8} (h : Duo w W B x out out2 l l2) (hr : RCon W' x o' l') (hu : Upd x W W') : Duo w W' B x out o' l l' := by
  obtain ⟨v, h1, h2, h3⟩ := h.con
  refine ⟨⟨v, h1.keep (hu.block _ (lt_of_heap h1) (Ne.symm h.ne)), h2.keep (fun g hg => ?_), h3⟩, hr, h.old.trans (hu.below h.lo h.size), h.lo, h.sm⟩
  obtain ⟨_, cur, hh⟩ := h2.block g hg
  refine hu.block _ (lt_of_heap hh) (fun e => ?_)
  have h4 := h.ref
  unfold RCon at h4
  rw [e, h4] at hh
  simp at hh
theorem d_rget (h : Duo w W B x out out2 l l2) (n : Int) :
    Calls Try.prog 11 #[.pointer (some ⟨x, 0, none⟩), .int .i64 n] W fun e W' => e = .returned (tx (l2.take (tk l2 n))) ∧ Duo w W' B x out out2 l (l2.drop (tk l2 n)) := by
  refine (rget_at x out2 l2 n W h.ref).mono ?_
  rintro e W' ⟨rfl, hc, hu⟩
  exact ⟨rfl, h.updX hc hu⟩
end

set_option maxRecDepth 100000 in
set_option maxHeartbeats 4000000 in
theorem consoles_walk (T : List UInt8) (a0 : Option Addr) (len cap : Nat) (w : World) (hlen : len ≤ 9223372036854775807)
    (HC : Hid (∀ j, j < len → ∃ gb off, a0 = some ⟨gb, off, none⟩ ∧ ∃ (p : Bool) (n : Int) (s : List UInt8), w.cell? ⟨gb, off + j * 3, none⟩ = some (.bool p) ∧ w.cell? ⟨gb, off + j * 3 + 1, none⟩ = some (.int .i64 n) ∧ w.cell? ⟨gb, off + j * 3 + 2, none⟩ = some (tx s) ∧ s.length ≤ 1048576)) :
    Calls Try.prog 3 #[tx T, .slice a0 len cap] w fun e w' => e = .returned (.bool true) ∧ Below w.heap.size w w' := by
  have hst := same_text
  go_enter Try.func3, Try.ntmps3
  go_wp2_with fail
  refine (new_at T _).mono ?_
  rintro e w1 ⟨rfl, hc1, hb1, hs1⟩
  have HD : Hid (Duo w (w1.alloc (.cells #[tx T, tx []] 27)) w.heap.size w1.heap.size [] [] T T) :=
    ⟨hc1.below ((Below.refl _ _).alloc (Nat.le_refl _) _), heap_alloc_new _ _, hb1.trans (((Below.refl _ _).alloc (Nat.le_refl _) _).mono hb1.size), hb1.size, Nat.le_refl _⟩
  clear hc1 hb1 hs1
  go_wp2_with fail
  obtain ⟨B, hB⟩ : ∃ B, B = w.heap.size := ⟨_, rfl⟩
  obtain ⟨x, hx⟩ : ∃ x, x = w1.heap.size := ⟨_, rfl⟩
  obtain ⟨W1, hW1⟩ : ∃ W, W = w1.alloc (.cells #[tx T, tx []] 27) := ⟨_, rfl⟩
  rw [← hB, ← hx, ← hW1] at HD
  rw [← hB, ← hx, ← hW1]
  have HB : Hid _ := hB
  clear hB hx hW1
  go_loopw [7] (fun i wr => ∃ (k : Nat) (out l : List UInt8), k ≤ len ∧ k ≤ 200 ∧ i = .int .i64 k ∧ Cap k out ∧ Duo w wr B x out out l l) (fun i _ => 200 - (intOf i).toNat)
  case atStart => exact ⟨0, [], T, Nat.zero_le _, Nat.zero_le _, rfl, Cap.zero, HD.out⟩
  case round =>
    obtain ⟨k, out, l, hk, hk2, rfl, ho, hd⟩ := hrel
    clear HD
    by_cases hlt : k < len ∧ k < 200
    · obtain ⟨l1, l2⟩ := hlt
      obtain ⟨gb, off, rfl, p, n, s, c0, c1, c2, hs⟩ := HC.out k l1
      have HS : Hid _ := hs
      have HG : Hid (gb < B ∧ w.cell? ⟨gb, off + k * 3, none⟩ = some (.bool p) ∧ w.cell? ⟨gb, off + k * 3 + 1, none⟩ = some (.int .i64 n) ∧ w.cell? ⟨gb, off + k * 3 + 2, none⟩ = some (tx s)) := ⟨by rw [HB.out]; exact cell_lt c0, c0, c1, c2⟩
      have hin : ∀ {W : World} {out2 l2 l3 : List UInt8} {o3 : List UInt8}, Duo w W B x o3 out2 l2 l3 → W.cell? ⟨gb, off + k * 3, none⟩ = some (.bool p) ∧ W.cell? ⟨gb, off + k * 3 + 1, none⟩ = some (.int .i64 n) ∧ W.cell? ⟨gb, off + k * 3 + 2, none⟩ = some (tx s) :=
        fun h => ⟨(h.old.cell HG.out.1).trans HG.out.2.1, (h.old.cell HG.out.1).trans HG.out.2.2.1, (h.old.cell HG.out.1).trans HG.out.2.2.2⟩
      clear c0 c1 c2 hs HC
      obtain ⟨d0, d1, d2⟩ := hin hd
      cases p
      · have hdd : Duo w wr.drew B x out out l l := hd.below ⟨rfl, rfl, rfl, Nat.le_refl _, fun _ _ => rfl⟩
        clear hd
        have HIN : Hid _ := @hin
        clear hin
        go_wp2_with fail
        go_region_held3 (fun w' => w'.cell? ⟨gb, off + k * 3 + 1, none⟩ = some (.int .i64 n))
          (first | go_keep | (exact (HIN.out hq).2.1))
          (first
            | (go_at_call 10; refine (d_get (by assumption) n).mono ?_; rintro e wq ⟨rfl, hq⟩)
            | (go_at_call 11; refine (d_rget (by assumption) n).mono ?_; rintro e wq ⟨rfl, hq⟩))
        all_goals
          generalize l.drop (tk l n) = l' at *
          have dd : Duo w wq.drew B x out out l' l' := hq.below ⟨rfl, rfl, rfl, Nat.le_refl _, fun _ _ => rfl⟩
          have x0 := hq.ref.c0
          have x1 := hq.ref.c1
          go_wp2_with fail
          go_region_held3 (fun w' => w'.cell? ⟨x, 0, none⟩ = some (tx l') ∧ w'.cell? ⟨x, 1, none⟩ = some (tx out))
            (first | go_keep | (exact ⟨dd.ref.c0, dd.ref.c1⟩))
            (first
              | (go_at_call 12; refine (left_at _ _ _ _ _ dd.con).mono ?_; rintro e wz ⟨rfl, rfl⟩)
              | (go_at_call 13; refine (out_at _ _ _ _ _ dd.con).mono ?_; rintro e wz ⟨rfl, rfl⟩))
          all_goals
            go_wp2_with fail
            go_roundw
            case rel => exact ⟨k + 1, out, l', by omega, by omega, by go_num, ho.same, dd⟩
            case measure => simp [intOf]; omega
      · go_wp2_with fail
        refine (d_put hd s (ho.room hk2 HS.out)).mono ?_
        rintro e w2 ⟨rfl, hd2⟩
        obtain ⟨d0', d1', d2'⟩ := hin hd2
        have x1 := hd2.ref.c1
        have xf := hd2.ref.free 1
        have hno : ¬ 9223372036854775807 < out.length + s.length := by have := ho.room hk2 HS.out; omega
        have hgl := glue out s
        clear d0 d1 d2 hd d0' d1'
        go_wp2_with fail
        go_region
        all_goals
          have hq : Duo w (w2.setCell ⟨x, 1, none⟩ (tx (out ++ s))).drew B x (out ++ s) (out ++ s) l l :=
            (hd2.updX (hd2.ref.set1 _) (Upd.setCell _ _ _ _)).below ⟨rfl, rfl, rfl, Nat.le_refl _, fun _ _ => rfl⟩
          obtain ⟨W3, hW3⟩ : ∃ W, W = (w2.setCell ⟨x, 1, none⟩ (tx (out ++ s))).drew := ⟨_, rfl⟩
          rw [← hW3] at hq ⊢
          have ho2 := ho.more HS.out
          clear hW3 hd2 d2' x1 xf hno hgl ho HS
          generalize out ++ s = out' at *
          have dd : Duo w W3.drew B x out' out' l l := hq.below ⟨rfl, rfl, rfl, Nat.le_refl _, fun _ _ => rfl⟩
          have x0 := hq.ref.c0
          have x1 := hq.ref.c1
          go_wp2_with fail
          go_region_held3 (fun w' => w'.cell? ⟨x, 0, none⟩ = some (tx l) ∧ w'.cell? ⟨x, 1, none⟩ = some (tx out'))
            (first | go_keep | (exact ⟨dd.ref.c0, dd.ref.c1⟩))
            (first
              | (go_at_call 12; refine (left_at _ _ _ _ _ dd.con).mono ?_; rintro e wz ⟨rfl, rfl⟩)
              | (go_at_call 13; refine (out_at _ _ _ _ _ dd.con).mono ?_; rintro e wz ⟨rfl, rfl⟩))
          all_goals
            go_wp2_with fail
            go_roundw
            case rel => exact ⟨k + 1, out', l, by omega, by omega, by go_num, ho2, dd⟩
            case measure => simp [intOf]; omega
    · have HD : Hid _ := hd
      clear hd HC
      have hkl : k < len ∨ len ≤ k := by omega
      rcases hkl with hkl | hkl
      all_goals
        go_wp2_with fail
        refine (awake_any _).mono ?_
        rintro e w5 ⟨rfl, hb5⟩
        go_wp2_with fail
        go_ret
        have ho := HD.out.old
        rw [HB.out] at ho
        exact ⟨rfl, ho.trans (hb5.mono ho.size)⟩

theorem deedKinds : kindsOf Try.prog 9 29 = some [.b, .i .i64, .s] := by kernel_rfl
theorem deedSize : Try.prog.cellsOf 29 = 3 := by kernel_rfl
theorem own : ownKnob Try.prog.godebug = none := by kernel_rfl
theorem laidOut : laidOutB Try.prog = true := by kernel_rfl

set_option maxRecDepth 100000 in
theorem consoles_lifted (os : Os) (started : os.Started) (H : Type) (enc : TypeId × Value → H) (F : Stop.Interp) :
    ReturnsInHanded {} Try.checked os 3 .any ((Rows.OpenSpec.upto Rows.deviceConsolesSpec).pre6 enc Try.prog Try.f3 Rows.deviceConsolesUptoRow.domain false) (((Rows.OpenSpec.upto Rows.deviceConsolesSpec).at F).post enc Try.prog Try.f3 false true false false) := by
  refine returnsInHanded_of_cond (C := Try.checked) (s := Rows.OpenSpec.upto Rows.deviceConsolesSpec) (k := Rows.uptoSmall) rfl own started (by kernel_rfl) Try.func3
    (OpenSpec.witness (enc := enc) (C := Try.checked) (s := Rows.OpenSpec.upto Rows.deviceConsolesSpec) (k := Rows.uptoSmall) rfl false ⟨#[], #[.string ⟨#[]⟩, .slice none 0 0], []⟩ 8 (by kernel_rfl) (by kernel_rfl) (by kernel_rfl) (x := ([.lit (.string []), .nil], [], [])) (by kernel_rfl) rfl (by kernel_rfl)) ?_
  intro W base args ds gs before hval0 hW hcnd hk _
  have hval : ∀ (j : Nat) t v, Try.f3.params[j]? = some t → args[j]? = some v → Value.okWide Try.prog W .any base t v := hval0
  have hW' := hW
  obtain ⟨p, q, hA0, hV, rfl, hfz, hnd⟩ := hW
  have hA : DataW.TrodAll enc Try.prog W 0 (fun _ => true) true Try.f3.params.toList args.toList ds p := hA0
  rw [Try.params3] at hA hval
  obtain ⟨v0, vs0, d0, ds0, p0, q0, hargs, rfl, rfl, h0, r0⟩ := trodAll_cons hA
  obtain ⟨v1, vs1, d1, ds1, p1, q1, rfl, rfl, rfl, h1, r1⟩ := trodAll_cons r0
  obtain ⟨rfl, rfl, rfl⟩ := trodAll_nil r1
  obtain rfl : args = #[v0, v1] := by cases args; simp_all
  obtain ⟨rfl, rfl⟩ := trodVars_none hV
  obtain ⟨s0, rfl, rfl, rfl, len0⟩ := Go.ChangeMaps.open_string Try.underlying9 (hval 0 9 v0 rfl rfl) h0
  have k1 := h1
  have lt1 : ∀ x ∈ p1, x.block < W.heap.size := by obtain ⟨m, hm⟩ := k1; exact DataW.trod_lt m _ _ _ hm
  obtain ⟨a1, len1, cap1, rfl⟩ := okWide_slice Try.underlying22 (hval 1 22 v1 rfl rfl)
  clear hA0 hval0
  have hdeeds : len1 ≤ 9223372036854775807 ∧ ∀ j, j < len1 → ∃ gb off, a1 = some ⟨gb, off, none⟩ ∧ ∃ (p : Bool) (n : Int) (s : List UInt8), W.cell? ⟨gb, off + j * 3, none⟩ = some (.bool p) ∧ W.cell? ⟨gb, off + j * 3 + 1, none⟩ = some (.int .i64 n) ∧ W.cell? ⟨gb, off + j * 3 + 2, none⟩ = some (tx s) ∧ s.length ≤ 1048576 := by
    obtain ⟨fuel, hf⟩ := h1
    have hM : Rows.uptoBulk d1 ≤ 1048576 := Nat.le_trans (bulk_part (by simp)) (of_decide_eq_true hk)
    obtain ⟨hl, hc⟩ := slice_small (l := [.b, .i .i64, .s]) Try.underlying22 deedKinds (by simp) deedSize (by simpa [Value.cells] using hf) hM
    refine ⟨hl, fun j hj => ?_⟩
    obtain ⟨gb, off, cs, ea, hfit, hsm, hcell⟩ := hc j hj
    obtain ⟨_, _, rfl, ⟨p, rfl⟩, _, _, rfl, ⟨n, rfl, _⟩, _, _, rfl, ⟨s, rfl, hs⟩, rfl⟩ := hfit
    obtain ⟨T, eT, hT⟩ := text_of s
    have h3 := hsm (.string s) (by simp) s rfl
    refine ⟨gb, off, ea, p, n, T, hcell 0 _ rfl, hcell 1 _ rfl, ?_, by omega⟩
    have h4 := hcell 2 _ rfl
    rw [eT] at h4
    exact h4
  have hwalk : Calls Try.prog 3 #[.string s0, .slice a1 len1 cap1] W fun e w' => e = .returned (.bool true) ∧ Below W.heap.size W w' := by
    obtain ⟨T, hs, hT⟩ := text_of s0
    rw [hs]
    exact consoles_walk T a1 len1 cap1 W hdeeds.1 hdeeds.2
  refine hwalk.mono fun e W' ⟨he, bel⟩ => ?_
  subst he
  exact ⟨_, rfl, _, _, _, [], _, [], hW', trodAll_mk1 (shut_bool Try.underlying4 _), (trodAll_cons_mk (Go.ChangeMaps.shut_string Try.underlying9 len0) (trodAll_cons_mk (Below.trod laidOut (by kernel_rfl) (of_decide_eq_true (by kernel_rfl)) k1 bel lt1) trodAll_mk0)), rfl, bel.frame _, fun h => by cases h⟩

theorem consoles_holds : Rows.DeviceConsolesUptoSaid :=
  OpenClaim.holds_of_cond 3 Try.f3 rfl rfl rfl rfl rfl rfl rfl ⟨rfl, rfl, rfl, rfl, rfl⟩ rfl rfl rfl rfl rfl (by kernel_rfl) Try.func3 (by kernel_rfl)
    (of_decide_eq_true (by kernel_rfl)) (by unfold Func.isWrapper; first | (rw [if_pos (by decide +kernel)]; kernel_rfl) | (rw [if_neg (by decide +kernel)]; exact ⟨rfl, rfl⟩))
    (fun os started H enc _ F => consoles_lifted os started H enc F)
#print axioms consoles_holds
end Go.Proofs.Ytbihcaacpeoghaa
