/- One step of the machine on a memory. -/
import Derived.Test.YtedkijionpkmmaaVmE
import Derived.Test.YtedkijionpkmmaaVmE2
import Derived.Test.YtedkijionpkmmaaVmF
import Derived.Test.YtedkijionpkmmaaVmF2
import Derived.Laws.Bits64
import Derived.Laws.Closers25b
namespace Go.Proofs.Ytedkijionpkmmaa
open Go.RowKit
set_option linter.unusedVariables false

theorem step_at (s : List UInt8) (hs : s.length ≤ 1000000000) (M b : Nat) (pc : Int) (hpc : -9223372036854775808 ≤ pc ∧ pc ≤ 9223372036854775807) (sv : Value) (st : List Int) (w : World) (h : MachV M w b pc sv st) (hl : st.length ≤ 99990) (hws : Wds st) :
    Calls Try.prog 23 #[tx s, .pointer (some ⟨b, 0, none⟩), .agg opTable] w fun e w' => Does M b w sv (vstep s pc st).1 (vstep s pc st).2.1 (vstep s pc st).2.2 e w' := by
  by_cases he : (one s pc).2 = 0
  · cases hc : canDo (one s pc).1 st with
    | false =>
      rw [vstep_not hc]
      exact (step_not s hs M b pc hpc sv st w h hl he hc).mono (fun e w' h => h.does)
    | true =>
      rw [vstep_yes he hc]
      have ho := (one_good hs he).2.1
      have hh : (6 ≤ (one s pc).1.op ∧ (one s pc).1.op ≤ 11) ∨ (12 ≤ (one s pc).1.op ∧ (one s pc).1.op ≤ 17) ∨ ((one s pc).1.op = 0 ∨ (one s pc).1.op = 1 ∨ (one s pc).1.op = 2 ∨ (one s pc).1.op = 4 ∨ (one s pc).1.op = 5 ∨ (one s pc).1.op = 18) ∨ ((one s pc).1.op = 3 ∨ (one s pc).1.op = 19 ∨ (one s pc).1.op = 20 ∨ (one s pc).1.op = 21 ∨ (one s pc).1.op = 22 ∨ (one s pc).1.op = 23) := by omega
      rcases hh with hh | hh | hh | hh
      · exact step_two6 s hs M b pc hpc sv st w h hl he hc hws hh
      · exact step_two12 s hs M b pc hpc sv st w h hl he hc hws hh
      · exact step_puts s hs M b pc hpc sv st w h hl he hc hws hh
      · exact (step_takes s hs M b pc hpc sv st w h hl he hc hws hh).mono (fun e w' h => h.does)
  · rw [vstep_no he]
    exact (step_no s hs M b pc hpc sv st w h hl he).mono (fun e w' h => h.does)

theorem eff_ind (i : Ins) (st : List Int) (P : Int × List Int × Act4 → Prop)
    (h0 : i.op = 0 ∨ i.op = 1 → P (i.pos + i.len, i.arg :: st, actNo)) (h2 : i.op = 2 → P (i.pos + i.len, st.headD 0 :: st.headD 0 :: st.drop 1, actNo)) (h3 : i.op = 3 → P (i.pos + i.len, st.drop 1, actNo))
    (h4 : i.op = 4 → P (i.pos + i.len, st.tail.headD 0 :: st.headD 0 :: st.drop 2, actNo)) (h5 : i.op = 5 → P (i.pos + i.len, st.tail.headD 0 :: st.headD 0 :: st.tail.headD 0 :: st.drop 2, actNo))
    (h18 : i.op = 18 → P (i.pos + i.len, (if st.headD 0 = 0 then 1 else 0) :: st.drop 1, actNo)) (h19 : i.op = 19 → P (i.pos + i.len, st.drop 1, ⟨1, st.headD 0, 0, 0⟩)) (h20 : i.op = 20 → P (i.pos + i.len, st.drop 2, ⟨2, st.headD 0, st.tail.headD 0, 0⟩))
    (h21 : i.op = 21 → P (i.arg, st, actNo)) (h22 : i.op = 22 → P (if st.headD 0 = 0 then i.arg else i.pos + i.len, st.drop 1, actNo)) (h23 : i.op = 23 → P (i.pos, st, ⟨3, 0, 0, i.arg⟩))
    (hx : ¬ (i.op = 0 ∨ i.op = 1) ∧ i.op ≠ 2 ∧ i.op ≠ 3 ∧ i.op ≠ 4 ∧ i.op ≠ 5 ∧ i.op ≠ 18 ∧ i.op ≠ 19 ∧ i.op ≠ 20 ∧ i.op ≠ 21 ∧ i.op ≠ 22 ∧ i.op ≠ 23 → P (i.pos + i.len, two i.op (st.tail.headD 0) (st.headD 0) :: st.drop 2, actNo)) : P (eff i st) := by
  unfold eff
  dsimp only
  by_cases a0 : i.op = 0 ∨ i.op = 1
  · rw [if_pos a0]; exact h0 a0
  rw [if_neg a0]
  by_cases a2 : i.op = 2
  · rw [if_pos a2]; exact h2 a2
  rw [if_neg a2]
  by_cases a3 : i.op = 3
  · rw [if_pos a3]; exact h3 a3
  rw [if_neg a3]
  by_cases a4 : i.op = 4
  · rw [if_pos a4]; exact h4 a4
  rw [if_neg a4]
  by_cases a5 : i.op = 5
  · rw [if_pos a5]; exact h5 a5
  rw [if_neg a5]
  by_cases a18 : i.op = 18
  · rw [if_pos a18]; exact h18 a18
  rw [if_neg a18]
  by_cases a19 : i.op = 19
  · rw [if_pos a19]; exact h19 a19
  rw [if_neg a19]
  by_cases a20 : i.op = 20
  · rw [if_pos a20]; exact h20 a20
  rw [if_neg a20]
  by_cases a21 : i.op = 21
  · rw [if_pos a21]; exact h21 a21
  rw [if_neg a21]
  by_cases a22 : i.op = 22
  · rw [if_pos a22]; exact h22 a22
  rw [if_neg a22]
  by_cases a23 : i.op = 23
  · rw [if_pos a23]; exact h23 a23
  rw [if_neg a23]
  exact hx ⟨a0, a2, a3, a4, a5, a18, a19, a20, a21, a22, a23⟩
theorem eff_kind (i : Ins) (st : List Int) : ((eff i st).2.2.kind = 0 ∨ (eff i st).2.2.kind = 1 ∨ (eff i st).2.2.kind = 2 ∨ (eff i st).2.2.kind = 3) ∧ (((eff i st).2.2.kind = 1 ∨ (eff i st).2.2.kind = 2) → i.op = 19 ∨ i.op = 20) := by
  have hn : ((actNo.kind = 0 ∨ actNo.kind = 1 ∨ actNo.kind = 2 ∨ actNo.kind = 3) ∧ ((actNo.kind = 1 ∨ actNo.kind = 2) → i.op = 19 ∨ i.op = 20)) := ⟨by simp [actNo], by simp [actNo]⟩
  exact eff_ind i st (fun r => (r.2.2.kind = 0 ∨ r.2.2.kind = 1 ∨ r.2.2.kind = 2 ∨ r.2.2.kind = 3) ∧ ((r.2.2.kind = 1 ∨ r.2.2.kind = 2) → i.op = 19 ∨ i.op = 20))
    (fun _ => hn) (fun _ => hn) (fun _ => hn) (fun _ => hn) (fun _ => hn) (fun _ => hn) (fun h => ⟨by simp, fun _ => Or.inl h⟩) (fun h => ⟨by simp, fun _ => Or.inr h⟩) (fun _ => hn) (fun _ => hn) (fun _ => ⟨by simp, by simp⟩) (fun _ => hn)
theorem vstep_kind (s : List UInt8) (pc : Int) (st : List Int) : ((vstep s pc st).2.2.kind = 0 ∨ (vstep s pc st).2.2.kind = 1 ∨ (vstep s pc st).2.2.kind = 2 ∨ (vstep s pc st).2.2.kind = 3 ∨ (vstep s pc st).2.2.kind = 4) := by
  have h := (eff_kind (one s pc).1 st).1
  unfold vstep
  split
  · omega
  · simp [actFault]
/-- A load or a store takes numbers off alone. -/
theorem step_ls (s : List UInt8) (hs : s.length ≤ 1000000000) (M b : Nat) (pc : Int) (hpc : -9223372036854775808 ≤ pc ∧ pc ≤ 9223372036854775807) (sv : Value) (st : List Int) (w : World) (h : MachV M w b pc sv st) (hl : st.length ≤ 99990) (hws : Wds st)
    (hk : (vstep s pc st).2.2.kind = 1 ∨ (vstep s pc st).2.2.kind = 2) :
    Calls Try.prog 23 #[tx s, .pointer (some ⟨b, 0, none⟩), .agg opTable] w fun e w' => Takes M b w sv (vstep s pc st).1 (vstep s pc st).2.1 (vstep s pc st).2.2 e w' := by
  by_cases he : (one s pc).2 = 0
  · cases hc : canDo (one s pc).1 st with
    | false =>
      rw [vstep_not hc]
      exact step_not s hs M b pc hpc sv st w h hl he hc
    | true =>
      rw [vstep_yes he hc] at hk ⊢
      have := (eff_kind (one s pc).1 st).2 hk
      exact step_takes s hs M b pc hpc sv st w h hl he hc hws (by omega)
  · rw [vstep_no he]
    exact step_no s hs M b pc hpc sv st w h hl he

/-- The words that come out of a step. -/
theorem wd_wrap (x : Int) : Wd (IntKind.u64.wrap x) := by
  rw [IntKind.wrap_u64]
  unfold Wd
  omega
theorem wd_div (a b : Int) (ha : Wd a) (hb : 0 ≤ b) : Wd (a / b) := by
  obtain ⟨h1, h2⟩ := ha
  exact ⟨Int.ediv_nonneg h1 hb, Int.le_trans (Int.ediv_le_self b h1) h2⟩
theorem wd_mod (a b : Int) (ha : Wd a) (hb : Wd b) : Wd (a % b) := by
  obtain ⟨h1, h2⟩ := ha
  obtain ⟨h3, h4⟩ := hb
  by_cases h : b = 0
  · subst h
    rw [Int.emod_zero]
    exact ⟨h1, h2⟩
  · have := Int.emod_nonneg a h
    have := Int.emod_lt_of_pos a (show 0 < b by omega)
    exact ⟨by omega, by omega⟩
theorem wd_bit (p : Prop) [Decidable p] : Wd (if p then 1 else 0) := by
  unfold Wd
  split <;> omega
theorem two_wd (op a b : Int) (ha : Wd a) (hb : Wd b) : Wd (two op a b) := by
  have hp : ∀ n : Nat, (0 : Int) ≤ 2 ^ n := fun n => Int.le_of_lt (Int.pow_pos (by decide))
  have hb2 : ∀ o, Wd (bits o .u64 a b) := fun o => ⟨bits_lo_u64 o a b, bits_hi_u64 o a b⟩
  unfold two
  by_cases a6 : op = 6
  · rw [if_pos a6]; exact wd_wrap _
  rw [if_neg a6]
  by_cases a7 : op = 7
  · rw [if_pos a7]; exact wd_wrap _
  rw [if_neg a7]
  by_cases a8 : op = 8
  · rw [if_pos a8]; exact wd_wrap _
  rw [if_neg a8]
  by_cases a9 : op = 9
  · rw [if_pos a9]; exact wd_div a b ha hb.1
  rw [if_neg a9]
  by_cases a10 : op = 10
  · rw [if_pos a10]; exact wd_mod a b ha hb
  rw [if_neg a10]
  by_cases a11 : op = 11
  · rw [if_pos a11]; exact hb2 _
  rw [if_neg a11]
  by_cases a12 : op = 12
  · rw [if_pos a12]; exact hb2 _
  rw [if_neg a12]
  by_cases a13 : op = 13
  · rw [if_pos a13]; exact hb2 _
  rw [if_neg a13]
  by_cases a14 : op = 14
  · rw [if_pos a14]; exact wd_wrap _
  rw [if_neg a14]
  by_cases a15 : op = 15
  · rw [if_pos a15]; exact wd_div a _ ha (hp _)
  rw [if_neg a15]
  by_cases a16 : op = 16
  · rw [if_pos a16]; exact wd_bit _
  rw [if_neg a16]
  exact wd_bit _
theorem eff_wds (i : Ins) (st : List Int) (hi : i.Fit) (h : Wds st) : Wds (eff i st).2.1 ∧ Wd (eff i st).2.2.addr ∧ Wd (eff i st).2.2.val := by
  have h0 : Wd 0 ∧ Wd 1 := by unfold Wd; omega
  have ha : Wd i.arg := hi.2.1
  have hb : Wd (st.headD 0) := by
    cases st with
    | nil => exact h0.1
    | cons x r => exact h x (by simp)
  have hy : Wd (st.tail.headD 0) := by
    cases st with
    | nil => exact h0.1
    | cons x r =>
      cases r with
      | nil => exact h0.1
      | cons y r => exact h y (by simp)
  have hd : ∀ n, Wds (st.drop n) := fun n x hx => h x (List.mem_of_mem_drop hx)
  have hc : ∀ (x : Int) (l : List Int), Wd x → Wds l → Wds (x :: l) := fun x l hx hl y hy => by
    rcases List.mem_cons.1 hy with rfl | hy
    · exact hx
    · exact hl y hy
  have h2 := two_wd i.op _ _ hy hb
  have hn : Wd (if st.headD 0 = 0 then 1 else 0) := by split; exact h0.2; exact h0.1
  exact eff_ind i st (fun r => Wds r.2.1 ∧ Wd r.2.2.addr ∧ Wd r.2.2.val)
    (fun _ => ⟨hc _ _ ha h, h0.1, h0.1⟩) (fun _ => ⟨hc _ _ hb (hc _ _ hb (hd 1)), h0.1, h0.1⟩) (fun _ => ⟨hd 1, h0.1, h0.1⟩) (fun _ => ⟨hc _ _ hy (hc _ _ hb (hd 2)), h0.1, h0.1⟩) (fun _ => ⟨hc _ _ hy (hc _ _ hb (hc _ _ hy (hd 2))), h0.1, h0.1⟩) (fun _ => ⟨hc _ _ hn (hd 1), h0.1, h0.1⟩)
    (fun _ => ⟨hd 1, hb, h0.1⟩) (fun _ => ⟨hd 2, hb, hy⟩) (fun _ => ⟨h, h0.1, h0.1⟩) (fun _ => ⟨hd 1, h0.1, h0.1⟩) (fun _ => ⟨h, h0.1, h0.1⟩) (fun _ => ⟨hc _ _ h2 (hd 2), h0.1, h0.1⟩)
theorem vstep_wds (s : List UInt8) (hs : s.length ≤ 1000000000) (pc : Int) (st : List Int) (h : Wds st) : Wds (vstep s pc st).2.1 ∧ Wd (vstep s pc st).2.2.addr ∧ Wd (vstep s pc st).2.2.val := by
  unfold vstep
  split
  · rename_i hh
    exact eff_wds _ st (one_good hs hh.1).1 h
  · exact ⟨h, by unfold Wd actFault; simp, by unfold Wd actFault; simp⟩

/-- A step on a memory. -/
def von (s : List UInt8) (pc : Int) (st ms : List Int) : Int × List Int × List Int × Act4 :=
  if (vstep s pc st).2.2.kind = 1 then
    (if (vstep s pc st).2.2.addr < ms.length then ((vstep s pc st).1, ms.getD (vstep s pc st).2.2.addr.toNat 0 :: (vstep s pc st).2.1, ms, actNo) else (pc, st, ms, actFault))
  else if (vstep s pc st).2.2.kind = 2 then
    (if (vstep s pc st).2.2.addr < ms.length then ((vstep s pc st).1, (vstep s pc st).2.1, ms.set (vstep s pc st).2.2.addr.toNat (vstep s pc st).2.2.val, actNo) else (pc, st, ms, actFault))
  else ((vstep s pc st).1, (vstep s pc st).2.1, ms, (vstep s pc st).2.2)

/-- A machine and its memory. -/
structure Duo (M : Nat) (w : World) (b : Nat) (pc : Int) (sv : Value) (st : List Int) (mv : Value) (ms : List Int) : Prop where
  mach : MachV M w b pc sv st
  mem : w.ownsRow M 25 1 mv ms.length (uvs ms)
  apart : ∀ g, mv.ownBlock = some g → sv.ownBlock ≠ some g
structure Gone (b : Nat) (mv : Value) (w : World) (sv : Value) (w' : World) (sv' : Value) : Prop where
  os : w'.os = w.os
  tape : w'.tape = w.tape
  output : w'.output = w.output
  size : w.heap.size ≤ w'.heap.size
  block : ∀ k, k < w.heap.size → k ≠ b → sv.ownBlock ≠ some k → mv.ownBlock ≠ some k → w'.heap[k]? = w.heap[k]?
  lies : sv'.ownBlock = sv.ownBlock ∨ ∀ g, sv'.ownBlock = some g → w.heap.size ≤ g

theorem Gone.of_went {b : Nat} {mv : Value} {w w' : World} {sv sv' : Value} (h : Went b w sv w' sv') : Gone b mv w sv w' sv' :=
  ⟨h.os, h.tape, h.output, h.size, fun k hk hb hs _ => h.block k hk hb hs, h.lies⟩
theorem own_apart {M : Nat} {w : World} {mv : Value} {n : Nat} {xs : List Value} (h : w.ownsRow M 25 1 mv n xs) {R : Nat} {cs : Array Value} {t : TypeId} (hR : w.heap[R]? = some (.cells cs t)) (ht : t ≠ 25) : mv.ownBlock ≠ some R := by
  intro e
  rcases h.2 with ⟨e2, _⟩ | ⟨g, cap, cur, e2, _, hh, _⟩
  · rw [e2] at e; simp [Value.ownBlock] at e
  · rw [e2] at e
    simp [Value.ownBlock] at e
    subst e
    rw [hh] at hR
    simp at hR
    exact ht hR.2.symm
/-- The machine moved, and nothing else: the memory is as it was. -/
theorem Duo.went {M : Nat} {w w' : World} {b : Nat} {pc pc' : Int} {sv sv' : Value} {st st' : List Int} {mv : Value} {ms : List Int} (h : Duo M w b pc sv st mv ms) (hm : MachV M w' b pc' sv' st') (g : Went b w sv w' sv') : Duo M w' b pc' sv' st' mv ms := by
  refine ⟨hm, ownsRow_at h.mem (fun k hk => g.block k (h.mem.lt k hk).2 (fun e => ?_) (fun e => h.apart k hk e)), fun k hk e => ?_⟩
  · subst e
    exact own_apart h.mem h.mach.head (by decide) hk
  · rcases g.lies with hl | hl
    · rw [hl] at e; exact h.apart k hk e
    · have := hl k e
      have := (h.mem.lt k hk).2
      omega
theorem Duo.form {M : Nat} {w : World} {b : Nat} {pc : Int} {sv : Value} {st : List Int} {mv : Value} {ms : List Int} (h : Duo M w b pc sv st mv ms) : ∃ a cap, mv = .slice a ms.length cap := by
  rcases h.mem.2 with ⟨e2, e3⟩ | ⟨g, cap, cur, e2, _⟩
  · exact ⟨none, 0, by rw [e2, e3]⟩
  · exact ⟨_, _, e2⟩
theorem three_allocs (w : World) (A B C : Obj) : Below w.heap.size w (((w.alloc A).alloc B).alloc C) := (two_allocs w A B).alloc (by simp; omega) _
set_option maxHeartbeats 1000000 in
theorem stepOn_plain (s : List UInt8) (hs : s.length ≤ 1000000000) (M b : Nat) (pc : Int) (hpc : -9223372036854775808 ≤ pc ∧ pc ≤ 9223372036854775807) (sv : Value) (st : List Int) (mv : Value) (ms : List Int) (w : World) (h : Duo M w b pc sv st mv ms) (hl : st.length ≤ 99990) (hml : ms.length ≤ 99990) (hws : Wds st)
    (hk1 : (vstep s pc st).2.2.kind ≠ 1) (hk2 : (vstep s pc st).2.2.kind ≠ 2) :
    Calls Try.prog 33 #[tx s, .pointer (some ⟨b, 0, none⟩), mv, .agg opTable] w fun e w' => e = .returned (.agg (actRow (vstep s pc st).2.2)) ∧ ∃ sv', Duo M w' b (vstep s pc st).1 sv' (vstep s pc st).2.1 mv ms ∧ Gone b mv w sv w' sv' := by
  have hst := fun W h => step_at s hs M b pc hpc sv st W h hl hws
  have hwd := vstep_wds s hs pc st hws
  have HH : Hid _ := h
  have hm := h.mach
  obtain ⟨a, cap, rfl⟩ := hm.form
  obtain ⟨ma, mcap, rfl⟩ := h.form
  have c0 := hm.c0
  have c1 := hm.c1
  have hlt := lt_of_heap hm.head
  clear h
  obtain ⟨T, hT⟩ : ∃ T, opTable = T := ⟨_, rfl⟩
  have HT : Hid _ := hT
  have hts : (Try.prog.info? 62).map (·.size) = some T.size := by rw [← hT]; exact tableSize
  rw [hT] at hst ⊢
  clear hT
  generalize vstep s pc st = r at *
  obtain ⟨pc', st', act⟩ := r
  obtain ⟨k, ad, vl, sy⟩ := act
  dsimp only at *
  obtain ⟨W, hW⟩ : ∃ W, W = ((w.alloc (.cells T 62)).alloc (.cells (actRow actNo) 30)).alloc (.cells #[.int .i64 pc, .slice a st.length cap] 24) := ⟨_, rfl⟩
  have HB : Hid (Below w.heap.size w W) := by rw [hW]; exact three_allocs _ _ _ _
  have HR : Hid (W.heap[w.heap.size + 1]? = some (.cells (actRow actNo) 30)) := by rw [hW, Below.heap_alloc _ _ _ (by simp)]; exact heap_alloc2_new _ _ _
  have HA : Hid (W.heap[w.heap.size + 1 + 1]? = some (.cells #[.int .i64 pc, .slice a st.length cap] 24)) := by
    show _ = _
    rw [hW]
    simpa using heap_alloc_new ((w.alloc (.cells T 62)).alloc (.cells (actRow actNo) 30)) (.cells #[.int .i64 pc, .slice a st.length cap] 24)
  have h2 := hm.below HB.out
  have hstW := hst W h2
  clear hst hm
  unfold actRow actNo at hW
  dsimp only at hW
  go_enter Try.func33, Try.ntmps33
  go_wp2_with (refine wpList_load_row rfl 62 (.tmp 7) rfl w.heap.size rfl 62 T (0, 0) _ (by first | exact heap_alloc_new _ _ | (rw [Below.heap_alloc _ _ _ (by simp; omega), Below.heap_alloc _ _ _ (by simp), heap_alloc_new])) Try.underlying62 rfl hts ?_)
  go_wp2_with fail
  rw [← hW]
  clear hW
  refine hstW.mono ?_
  clear hstW
  rintro e w1 ⟨rfl, sv1, hm1, hg1⟩
  have e1 : (k == 1) = false := by simpa using hk1
  have e2 : (k != 1) = true := by simpa using hk1
  have e3 : (k == 2) = false := by simpa using hk2
  have e4 : (k != 2) = true := by simpa using hk2
  have HR1 : Hid (w1.heap[w.heap.size + 1]? = some (.cells (actRow actNo) 30)) := Went.stays hg1 h2 HR.out (by decide) (by decide)
  have HG1 : Hid (Went b w _ w1 sv1) := (Went.of_below HB.out).trans hg1
  have hlt1 := lt_of_heap HR1.out
  clear hg1
  obtain ⟨⟨c0, c1, c2, c3⟩, f0, f1, f2, f3⟩ := cells4 HR1.out
  dsimp only [actRow]
  go_wp2
  (try simp only [Exit.inBlock, Exit.then])
  refine bodyPost_ret (results_cell_row rfl _ _ (w.heap.size + 1) 30 _ (0, 0) _ rfl ((Below.heap_alloc _ _ _ (by rw [put4_size]; exact hlt1)).trans (put4_row HR1.out)) Try.underlying30 rfl actSize) rfl ?_
  have hg := (HG1.out.put4 (R := w.heap.size + 1) (by omega) (.int .i64 k) (.int .u64 ad) (.int .u64 vl) (.int .i64 sy)).trans (Went.of_below (below_alloc _ (.cells #[.int .i64 k, .int .u64 ad, .int .u64 vl, .int .i64 sy] 30)))
  exact ⟨rfl, _, HH.out.went ((hm1.put4 HR1.out (by decide) (by decide) _ _ _ _).below (below_alloc _ _)) hg, Gone.of_went hg⟩
end Go.Proofs.Ytedkijionpkmmaa
