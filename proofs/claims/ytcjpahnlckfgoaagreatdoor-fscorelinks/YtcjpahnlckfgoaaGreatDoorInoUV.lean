/- Package inode: texts; a file's write. -/
/- Package inode: a file's block. -/
import Derived.Test.YtcjpahnlckfgoaaGreatDoorInoST
import Derived.Laws.IdiomStrings
namespace Go.Proofs.YtcjpahnlckfgoaaGreatDoor
open Go.RowKit
set_option linter.unusedVariables false

/-- A text as a value. -/
abbrev tx (l : List UInt8) : Value := .string ⟨l.toArray⟩
/-- Bytes as numbers, and back. -/
def nums (l : List UInt8) : List Int := l.map (fun b : UInt8 => (b.toNat : Int))
def byts (t : List Int) : List UInt8 := t.map (fun x : Int => UInt8.ofNat x.toNat)
theorem nums_len (l : List UInt8) : (nums l).length = l.length := by simp [nums]
theorem byts_len (t : List Int) : (byts t).length = t.length := by simp [byts]
theorem nums_byte (l : List UInt8) : ∀ y ∈ nums l, 0 ≤ y ∧ y < 256 := by
  intro y hy
  simp only [nums, List.mem_map] at hy
  obtain ⟨b, _, rfl⟩ := hy
  have := b.toNat_lt
  omega
theorem byts_nums (l : List UInt8) : byts (nums l) = l := by
  unfold byts nums
  rw [List.map_map]
  conv => rhs; rw [← List.map_id l]
  apply List.map_congr_left
  intro b _
  simp
theorem nums_byts {t : List Int} (h : ∀ y ∈ t, 0 ≤ y ∧ y < 256) : nums (byts t) = t := by
  unfold byts nums
  rw [List.map_map]
  conv => rhs; rw [← List.map_id t]
  apply List.map_congr_left
  intro y hy
  have := h y hy
  simp only [Function.comp, id_eq, UInt8.toNat_ofNat']
  omega
theorem nums_get (l : List UInt8) (j : Nat) (h : j < l.length) : (nums l).getD j 0 = ((l[j]).toNat : Int) := by simp [nums, h]
theorem tx_index (l : List UInt8) (j : Nat) (h : j < l.length) (W : World) : (Instr.index 9 (tx l) (.int .i64 (j : Int))).run Tryz.prog W = .ok (.int .u8 ((nums l).getD j 0)) W := by
  have hb : (ByteArray.mk l.toArray)[j]? = some l[j] := by
    have hs : j < (ByteArray.mk l.toArray).size := by simpa [ByteArray.size] using h
    rw [getElem?_pos _ j hs]
    rfl
  rw [nums_get l j h]
  simp [Instr.index, run_underlying Tryz.underlying9, asIntOf, hb]
theorem run_len_text (l : List UInt8) (W : World) : (Builtin.len_ #[9] 3 #[tx l]).run Tryz.prog W = .ok (.int .i64 (l.length : Int)) W := by kernel_rfl
/-- The words while data is laid. -/
structure WZ (n : Nat) (nb : List Nat) (t : List Int) (o : Nat) (d : List Int) (j : Nat) (u0 us : List Int) : Prop where
  len : us.length = u0.length
  data : ∀ k b, nb[k]? = some b → frameOf us b = chunk (splice t o (d.take j)) k
  out : ∀ b, b < n → b ∉ nb → frameOf us b = frameOf u0 b
theorem WZ.step {n : Nat} {nb : List Nat} {t : List Int} {o : Nat} {d : List Int} {j : Nat} {u0 us : List Int} (h : WZ n nb t o d j u0 us) (hl : us.length = n * 32) (hnd : nb.Nodup) (hn : ∀ b ∈ nb, b < n) (hj : j < d.length) (ho : o + d.length ≤ t.length) {b : Nat} (hb : nb[(o + j) / 32]? = some b) :
    WZ n nb t o d (j + 1) u0 (splice us (b * 32) ((frameOf us b).set ((o + j) % 32) (d.getD j 0))) := by
  have hbn := hn b (List.mem_of_getElem? hb)
  have hf := frameOf_length us b n hl hbn
  have hfs : ((frameOf us b).set ((o + j) % 32) (d.getD j 0)).length = 32 := by rw [List.length_set, hf]
  have l1 : (d.take j).length = j := by simp; omega
  have l2 : (d.take (j + 1)).length = j + 1 := by simp; omega
  have hsp : ∀ p, (splice t o (d.take (j + 1))).getD p 0 = if p = o + j then d.getD j 0 else (splice t o (d.take j)).getD p 0 := by
    intro p
    rw [splice_getD _ _ _ (by omega), splice_getD _ _ _ (by omega), l1, l2]
    by_cases e : p = o + j
    · subst e
      rw [if_pos (by omega), if_pos rfl, Nat.add_sub_cancel_left]
      simp only [List.getD_eq_getElem?_getD, List.getElem?_take]
      rw [if_pos (by omega)]
    · rw [if_neg e]
      by_cases q : o ≤ p ∧ p < o + j
      · rw [if_pos q, if_pos (by omega)]
        simp only [List.getD_eq_getElem?_getD, List.getElem?_take]
        rw [if_pos (by omega), if_pos (by omega)]
      · rw [if_neg q, if_neg (by omega)]
  refine ⟨by rw [splice_length _ _ _ (by rw [hl, hfs]; omega)]; exact h.len, fun k c hc => ?_, fun c hc hcn => ?_⟩
  · have hcn := hn c (List.mem_of_getElem? hc)
    rw [frame_splice us _ n b c hl hbn hcn hfs]
    by_cases e : c = b
    · have hk : k = (o + j) / 32 := by
        rw [e] at hc
        exact (List.getElem?_inj (List.getElem?_eq_some_iff.1 hc).1 hnd).1 (hc.trans hb.symm)
      rw [if_pos e]
      refine list_ext_getD _ _ (by rw [hfs, chunk_len]) fun r hr => ?_
      rw [hfs] at hr
      rw [chunk_get _ _ _ hr, hsp]
      by_cases q : r = (o + j) % 32
      · rw [if_pos (by omega), q, List.getD_eq_getElem?_getD, List.getElem?_set_self (by rw [hf]; omega)]
        rfl
      · rw [if_neg (by omega)]
        have e2 : ((frameOf us b).set ((o + j) % 32) (d.getD j 0)).getD r 0 = (frameOf us b).getD r 0 := by
          simp only [List.getD_eq_getElem?_getD]
          rw [List.getElem?_set_ne (fun x => q x.symm)]
        rw [e2, ← e, h.data k c hc, chunk_get _ _ _ hr]
    · rw [if_neg e, h.data k c hc]
      have hk : k ≠ (o + j) / 32 := fun hk => by
        rw [hk, hb] at hc
        exact e (by simpa using hc.symm)
      refine list_ext_getD _ _ (by rw [chunk_len, chunk_len]) fun r hr => ?_
      rw [chunk_len] at hr
      rw [chunk_get _ _ _ hr, chunk_get _ _ _ hr, hsp, if_neg (by omega)]
  · rw [frame_splice us _ n b c hl hbn hc hfs, if_neg (fun e => hcn (by rw [e]; exact List.mem_of_getElem? hb))]
    exact h.out c hc hcn
section
variable {w w' : World} {X : FX} {vs u0 : List Int} {m : Nat} {iw bw : List Nat} {kd lk sz : Int} {nb : List Nat}
set_option maxHeartbeats 2000000 in
set_option maxRecDepth 100000 in
theorem fwrite_at (h : FlAt w X vs u0 m iw bw kd lk sz (six (fun j => nb.getD j 0))) (hm : m ≤ 900000000000) (t : List Int) (o : Nat) (l : List UInt8) (hnd : nb.Nodup) (hn : ∀ b ∈ nb, b < X.n) (hl : nb.length = need t.length) (ht : t.length ≤ 192) (ho : o + l.length ≤ t.length) (h0 : ∀ k b, nb[k]? = some b → frameOf u0 b = chunk t k) :
    Calls Tryz.prog 62 #[ptr X.bf, .int .i64 (o : Int), tx l] w fun e w' => e = .returned (.tuple #[]) ∧ (∃ us, FlAt w' X vs us m iw bw kd lk sz (six (fun j => nb.getD j 0)) ∧ WZ X.n nb t o (nums l) l.length u0 us) ∧ Fr X w w' := by
  have HH : Hid (FlAt w X vs u0 m iw bw kd lk sz (six (fun j => nb.getD j 0))) := h
  have HW : Hid (WZ X.n nb t o (nums l) 0 u0 u0) := ⟨rfl, fun k b hb => by rw [List.take_zero, splice_nil]; exact h0 k b hb, fun b _ _ => rfl⟩
  have HNd : Hid (nb.Nodup) := hnd
  have HN : Hid (∀ b ∈ nb, b < X.n) := hn
  have HL : Hid (nb.length = need t.length) := hl
  have HT : Hid (t.length ≤ 192 ∧ o + l.length ≤ t.length) := ⟨ht, ho⟩
  obtain ⟨N, hN⟩ : ∃ N, N = l.length := ⟨_, rfl⟩
  have HNq : Hid (N = l.length) := hN
  have hlen : ((ByteArray.mk l.toArray).size : Int) = (N : Int) := by rw [hN]; simp [ByteArray.size]
  have hN192 : o + N ≤ 192 := by omega
  have hix : Hid (∀ j, j < N → ∀ W, (Instr.index 9 (tx l) (.int .i64 (j : Int))).run Tryz.prog W = .ok (.int .u8 ((nums l).getD j 0)) W) := fun j hj W => tx_index l j (by omega) W
  have HFt : Hid (∀ j, j < N → IntKind.u64.wrap ((nums l).getD j 0) = (nums l).getD j 0) := fun j hj => by
    have := nums_byte l ((nums l).getD j 0) (by rw [List.getD_eq_getElem?_getD, List.getElem?_eq_getElem (by rw [nums_len]; omega)]; exact List.getElem_mem _)
    exact Fit.su ⟨by omega, by omega⟩
  obtain ⟨sv, hsv⟩ : ∃ v, v = tx l := ⟨_, rfl⟩
  rw [← hsv] at hix ⊢
  have hln : ∀ W, (Builtin.len_ #[9] 3 #[sv]).run Tryz.prog W = .ok (.int .i64 (N : Int)) W := fun W => by
    rw [hsv, hN]
    exact run_len_text l W
  clear h hnd hn hl ht ho h0 hN hlen hsv
  go_enter Tryz.func62, Tryz.ntmps62
  go_wp2
  go_loopw [10] (fun z wr => ∃ (j : Nat) (us : List Int), j ≤ N ∧ z = .int .i64 j ∧ FlAt wr X vs us m iw bw kd lk sz (six (fun j => nb.getD j 0)) ∧ Fr X w wr ∧ Hid (WZ X.n nb t o (nums l) j u0 us)) (fun z _ => N - (intOf z).toNat)
  case atStart => exact ⟨0, u0, by omega, rfl, HH.out, SU.refl _ _ _, HW.out⟩
  case round =>
    obtain ⟨j, us, hj, rfl, hF, hfr, HZ⟩ := hrel
    have HF : Hid (FlAt wr X vs us m iw bw kd lk sz (six (fun j => nb.getD j 0))) := hF
    have HFr : Hid (Fr X w wr) := hfr
    by_cases hlt : j < N
    · have hji : (j : Int) < (N : Int) := by omega
      obtain ⟨p, hp⟩ : ∃ p, p = (o + j) / 32 := ⟨_, rfl⟩
      obtain ⟨r, hr⟩ : ∃ r, r = (o + j) % 32 := ⟨_, rfl⟩
      have Hp : Hid (p = (o + j) / 32 ∧ r = (o + j) % 32) := ⟨hp, hr⟩
      have hd : ((o : Int) + (j : Int)).tdiv 32 = (p : Int) := by rw [Int.tdiv_eq_ediv_of_nonneg (by omega)]; omega
      have ht : ((o : Int) + (j : Int)).tmod 32 = (r : Int) := by rw [Int.tmod_eq_emod_of_nonneg (by omega)]; omega
      have hwoj : IntKind.i64.wrap ((o : Int) + (j : Int)) = (o : Int) + (j : Int) := by
        have := Bi.wrap_small (o + j) (by omega)
        rw [Int.natCast_add] at this
        exact this
      have hp6 : p < 6 := by omega
      have hr32 : r < 32 := by omega
      have hwp : IntKind.i64.wrap ((p : Nat) : Int) = (p : Int) := Bi.wrap_small p (by omega)
      have hwr : IntKind.i64.wrap ((r : Nat) : Int) = (r : Int) := Bi.wrap_small r (by omega)
      have hpl : p < nb.length := by
        rw [HL.out, hp]
        have := HT.out
        have := HNq.out
        unfold need
        omega
      have hpg := List.getElem?_eq_getElem hpl
      obtain ⟨c0, c1, c2, c3, c4, c5, c6⟩ := hF.c
      have cb := hF.blk hp6
      rw [six_get _ hp6, List.getD_eq_getElem?_getD, hpg] at cb
      obtain ⟨b, hbq⟩ : ∃ b, b = nb[p] := ⟨_, rfl⟩
      rw [← hbq] at hpg
      have cb' : wr.cell? ⟨X.bf, 7 + p, none⟩ = some (.int .i64 (b : Int)) := by rw [cb, hbq]; rfl
      have HPg : Hid (nb[p]? = some b) := hpg
      have hbn := HN.out b (List.mem_of_getElem? hpg)
      have hA := dat_at (w := wr.drew) (hF.dr.below (Di.drewN_below (w := wr) ⟨1, rfl⟩)) b hbn hm
      have hs : wr.cell? ⟨X.bf, 0, none⟩ = some (ptr X.bd) ∧ wr.cell? ⟨X.bf, 7 + p, none⟩ = some (.int .i64 (b : Int)) := ⟨c0, cb'⟩
      have hpi : (p : Int) < 6 := by omega
      clear hF hfr c0 c1 c2 c3 c4 c5 c6 cb cb' hp hr hpl hpg hbq
      go_wp2_with fail
      refine wp_region_held_drew (S := fun w' => w'.cell? ⟨X.bf, 0, none⟩ = some (ptr X.bd) ∧ w'.cell? ⟨X.bf, 7 + p, none⟩ = some (.int .i64 (b : Int))) (by kernel_rfl) hs (fun hHeld => ?_)
      refine wpAnyH_take (i := 0) (v := ?_) rfl (by kernel_rfl) (by kernel_rfl) (by kernel_rfl) (fun _ _ _ h => h) (Or.inl ⟨by kernel_rfl, ?_⟩) (by assumption) ?_
      rotate_left
      · (intro w hSw; (try dsimp only at hSw); go_simp) <;> with_reducible rfl
      (try simp only [Act.put, List.getElem_toArray, List.getElem_cons_zero, List.setIfInBounds_toArray, List.set_cons_zero, List.set_cons_succ])
      refine wpAnyH_take (i := 1) (v := ?_) rfl (by kernel_rfl) (by kernel_rfl) (by kernel_rfl) (fun _ _ _ h => h) (Or.inl ⟨by kernel_rfl, ?_⟩) (by assumption) ?_
      rotate_left
      · (intro w hSw; (try dsimp only at hSw); go_simp) <;> with_reducible rfl
      (try simp only [Act.put, List.getElem_toArray, List.getElem_cons_zero, List.getElem_cons_succ, List.setIfInBounds_toArray, List.set_cons_zero, List.set_cons_succ])
      refine wpAnyH_take (i := 2) (v := ?_) rfl (by kernel_rfl) (by kernel_rfl) (by kernel_rfl) (fun _ _ _ h => h) (Or.inl ⟨by kernel_rfl, ?_⟩) (by assumption) ?_
      rotate_left
      · (intro w hSw; (try dsimp only at hSw); go_simp) <;> with_reducible rfl
      (try simp only [Act.put, List.getElem_toArray, List.getElem_cons_zero, List.getElem_cons_succ, List.setIfInBounds_toArray, List.set_cons_zero, List.set_cons_succ])
      refine wpAnyH_take (i := 3) (v := ?_) rfl (by kernel_rfl) (by kernel_rfl) (by kernel_rfl) (fun _ _ _ h => h) (Or.inl ⟨by kernel_rfl, ?_⟩) (by assumption) ?_
      rotate_left
      · (intro w hSw; (try dsimp only at hSw); go_simp) <;> with_reducible rfl
      (try simp only [Act.put, List.getElem_toArray, List.getElem_cons_zero, List.getElem_cons_succ, List.setIfInBounds_toArray, List.set_cons_zero, List.set_cons_succ])
      refine wpAnyH_take (i := 4) (v := ?_) rfl (by kernel_rfl) (by kernel_rfl) (by kernel_rfl) (fun _ _ _ h => h) (Or.inl ⟨by kernel_rfl, ?_⟩) (by assumption) ?_
      rotate_left
      · (intro w hSw; (try dsimp only at hSw); go_simp) <;> with_reducible rfl
      (try simp only [Act.put, List.getElem_toArray, List.getElem_cons_zero, List.getElem_cons_succ, List.setIfInBounds_toArray, List.set_cons_zero, List.set_cons_succ])
      refine wpAnyH_take (i := 5) (v := ?_) rfl (by kernel_rfl) (by kernel_rfl) (by kernel_rfl) (fun _ _ _ h => h) (Or.inl ⟨by kernel_rfl, ?_⟩) (by assumption) ?_
      rotate_left
      · (intro w hSw; (try dsimp only at hSw); go_simp) <;> with_reducible rfl
      (try simp only [Act.put, List.getElem_toArray, List.getElem_cons_zero, List.getElem_cons_succ, List.setIfInBounds_toArray, List.set_cons_zero, List.set_cons_succ])
      refine wpAnyH_take (i := 6) (v := ?_) rfl (by kernel_rfl) (by kernel_rfl) (by kernel_rfl) (fun _ _ _ h => h) (Or.inl ⟨by kernel_rfl, ?_⟩) (by assumption) ?_
      rotate_left
      · (intro w hSw; (try dsimp only at hSw); go_simp) <;> with_reducible rfl
      (try simp only [Act.put, List.getElem_toArray, List.getElem_cons_zero, List.getElem_cons_succ, List.setIfInBounds_toArray, List.set_cons_zero, List.set_cons_succ])
      refine wpAnyH_take (i := 7) (v := ?_) rfl (by kernel_rfl) (by kernel_rfl) (by kernel_rfl) (fun _ _ _ h => h) (Or.inl ⟨by kernel_rfl, ?_⟩) (by assumption) ?_
      rotate_left
      · (intro w hSw; (try dsimp only at hSw); go_simp) <;> with_reducible rfl
      (try simp only [Act.put, List.getElem_toArray, List.getElem_cons_zero, List.getElem_cons_succ, List.setIfInBounds_toArray, List.set_cons_zero, List.set_cons_succ])
      refine wpAnyH_take (i := 8) (v := ?_) rfl (by kernel_rfl) (by kernel_rfl) (by kernel_rfl) (fun _ _ _ h => h) (Or.inl ⟨by kernel_rfl, ?_⟩) (by assumption) ?_
      rotate_left
      · (intro w hSw; (try dsimp only at hSw); go_simp) <;> with_reducible rfl
      (try simp only [Act.put, List.getElem_toArray, List.getElem_cons_zero, List.getElem_cons_succ, List.setIfInBounds_toArray, List.set_cons_zero, List.set_cons_succ])
      refine wpAnyH_take (i := 9) (v := ?_) rfl (by kernel_rfl) (by kernel_rfl) (by kernel_rfl) (fun _ _ _ h => h) (Or.inl ⟨by kernel_rfl, ?_⟩) (by assumption) ?_
      rotate_left
      · (intro w hSw; (try dsimp only at hSw); go_simp) <;> with_reducible rfl
      (try simp only [Act.put, List.getElem_toArray, List.getElem_cons_zero, List.getElem_cons_succ, List.setIfInBounds_toArray, List.set_cons_zero, List.set_cons_succ])
      refine wpAnyH_take (i := 10) (v := ?_) rfl (by kernel_rfl) (by kernel_rfl) (by kernel_rfl) (fun _ _ _ h => h) (Or.inl ⟨by kernel_rfl, ?_⟩) (by assumption) ?_
      rotate_left
      · (intro w hSw; (try dsimp only at hSw); go_simp) <;> with_reducible rfl
      (try simp only [Act.put, List.getElem_toArray, List.getElem_cons_zero, List.getElem_cons_succ, List.setIfInBounds_toArray, List.set_cons_zero, List.set_cons_succ])
      refine wpAnyH_take (i := 11) (v := ?_) rfl (by kernel_rfl) (by kernel_rfl) (by kernel_rfl) (fun _ _ _ h => h) (Or.inl ⟨by kernel_rfl, ?_⟩) (by assumption) ?_
      rotate_left
      · (intro w hSw; (try dsimp only at hSw); go_simp) <;> with_reducible rfl
      (try simp only [Act.put, List.getElem_toArray, List.getElem_cons_zero, List.getElem_cons_succ, List.setIfInBounds_toArray, List.set_cons_zero, List.set_cons_succ])
      refine wpAnyH_take (i := 12) (v := ?_) rfl (by kernel_rfl) (by kernel_rfl) (by kernel_rfl) (fun _ _ _ h => h) (Or.inl ⟨by kernel_rfl, ?_⟩) (by assumption) ?_
      rotate_left
      · (intro w hSw; (try dsimp only at hSw); go_simp) <;> with_reducible rfl
      (try simp only [Act.put, List.getElem_toArray, List.getElem_cons_zero, List.getElem_cons_succ, List.setIfInBounds_toArray, List.set_cons_zero, List.set_cons_succ])
      refine wpAnyH_take (i := 13) (v := ?_) rfl (by kernel_rfl) (by kernel_rfl) (by kernel_rfl) (fun _ _ _ h => h) (Or.inl ⟨by kernel_rfl, ?_⟩) (by assumption) ?_
      rotate_left
      · (intro w hSw; (try dsimp only at hSw); go_simp) <;> with_reducible rfl
      (try simp only [Act.put, List.getElem_toArray, List.getElem_cons_zero, List.getElem_cons_succ, List.setIfInBounds_toArray, List.set_cons_zero, List.set_cons_succ])
      refine wpAnyH_ready (rs := [14]) (by kernel_rfl) (by simp) ?_
      refine AllReadyH.cons rfl (fun K hK => ?_) AllReadyH.nil
      go_simp
      refine hA.mono ?_
      rintro e w1 ⟨q, rfl, hq, hdt⟩
      have hdt' : DT X.base X.B wr w1 := (DT.of_below (Di.drewN_below ⟨1, rfl⟩)).trans hdt
      have h1 := HF.out.dt hq.dr hdt'
      obtain ⟨d0, d1, d2, d3, d4, d5, d6⟩ := h1.c
      have hbk : w1.heap[X.bf]? = wr.heap[X.bf]? := h1.head.trans HF.out.head.symm
      have hs1 : w1.cell? ⟨X.bf, 0, none⟩ = some (ptr X.bd) ∧ w1.cell? ⟨X.bf, 7 + p, none⟩ = some (.int .i64 (b : Int)) := ⟨d0, (World.cell?_of_block hbk).trans hs.2⟩
      have HUl : Hid (us.length = X.n * 32) := h1.dr.len
      have cq := hq.word hr32
      have fq := hq.free (j := 33 + r)
      obtain ⟨y, hy⟩ : ∃ y, y = (nums l).getD j 0 := ⟨_, rfl⟩
      have Hy : Hid (y = (nums l).getD j 0) := hy
      obtain ⟨q2, t2⟩ := hq.set (x := y) hr32
      have H2 : Hid (FlAt (w1.setCell ⟨q, 33 + r, none⟩ (.int .u64 y)) X vs (splice us (b * 32) ((frameOf us b).set r y)) m iw bw kd lk sz (six (fun j => nb.getD j 0))) := h1.dt q2.dr t2
      have HF2 : Hid (Fr X w (w1.setCell ⟨q, 33 + r, none⟩ (.int .u64 y))) := (HFr.out.trans hdt'.fr).trans t2.fr
      have hixj := hix.out j hlt
      have hwy := HFt.out j hlt
      rw [← hy] at hixj hwy
      clear hA hq hdt hdt' h1 d0 d1 d2 d3 d4 d5 d6 hbk q2 t2 hy
      generalize (frameOf us b).getD r 0 = y0 at *
      refine hK.out _ _ hs1 (fun hHeld => ?_)
      clear hK K
      (try simp only [Act.put, List.getElem_toArray, List.getElem_cons_zero, List.getElem_cons_succ, List.setIfInBounds_toArray, List.set_cons_zero, List.set_cons_succ])
      refine wpAnyH_take (i := 15) (v := ?_) rfl (by kernel_rfl) (by kernel_rfl) (by kernel_rfl) (fun _ _ _ h => h) (Or.inl ⟨by kernel_rfl, ?_⟩) (by assumption) ?_
      rotate_left
      · (intro w hSw; (try dsimp only at hSw); go_simp) <;> with_reducible rfl
      (try simp only [Act.put, List.getElem_toArray, List.getElem_cons_zero, List.getElem_cons_succ, List.setIfInBounds_toArray, List.set_cons_zero, List.set_cons_succ])
      refine wpAnyH_done (by kernel_rfl) ?_ _
      clear hs hs1
      go_wp2_with fail
      go_region
      all_goals
        go_wp2
        go_roundw
        case rel =>
          refine ⟨j + 1, _, by omega, by go_num, H2.out.below (Di.drewN_below ⟨1, rfl⟩), HF2.out.trans (SU.of_below (Di.drewN_below ⟨1, rfl⟩)), ?_⟩
          rw [Hp.out.2, Hy.out]
          exact HZ.out.step HUl.out HNd.out HN.out (by rw [nums_len]; have := HNq.out; omega) (by rw [nums_len]; exact HT.out.2) (by rw [← Hp.out.1]; exact HPg.out)
        case measure => simp [intOf]; omega
    · obtain rfl : j = N := by omega
      have hji : ¬ (j : Int) < (j : Int) := by omega
      rw [HNq.out] at HZ
      clear hF hfr
      go_wp2
      go_end0
      exact ⟨rfl, ⟨us, HF.out, HZ.out⟩, HFr.out⟩
end
end Go.Proofs.YtcjpahnlckfgoaaGreatDoor

namespace Go.Proofs.YtcjpahnlckfgoaaGreatDoor
open Go.RowKit
set_option linter.all false

section
variable {w w' : World} {X : FX} {vs ws : List Int} {m : Nat} {iw bw : List Nat} {kd lk sz : Int} {bl : List Nat}
/-- The store was asked once more. -/
theorem DrAt.got {base bd n : Nat} {B : Sto} {sv : Value} {S : List (Nat × Nat)} (h : DrAt w base bd B n vs ws m sv S) (hd : Dk w' B n vs (m + S.length + 1)) (hu : ST B.lo w w') : DrAt w' base bd B n vs ws (m + 1) sv S := by
  have hne : ∀ k, base ≤ k → IsD w k → w'.heap[k]? = w.heap[k]? := fun k hk hd => hu.block k (by obtain ⟨_, _, _, e, _⟩ := hd; exact lt_of_heap e) (Or.inr (isD_not_st hd)) id
  refine ⟨(hne bd h.bB h.isd).trans h.head, ownsRow_at h.own (fun g hg => hne g (h.iso hg).1 (h.iso hg).2), h.bB, fun p hp => ?_, h.nd, h.out, h.len, hd.mono (by omega), h.nn⟩
  obtain ⟨q1, q2, A, q3, q4⟩ := h.sh p hp
  exact ⟨q1, q2, A, q3, (hne _ q1 (h.isq hp)).trans q4⟩
theorem FlAt.got (h : FlAt w X vs ws m iw bw kd lk sz bl) (hdr : Dr w' X.base X.bd X.B X.n vs ws (m + 1)) (hu : ST X.B.lo w w') : FlAt w' X vs ws (m + 1) iw bw kd lk sz bl := by
  exact ⟨hu.other h.head (by decide), hdr, ⟨h.bm.bi.keep (hu.same h.bm.bi.head (by decide)) (hu.same h.bm.bi.row (by decide)), h.bm.bb.keep (hu.same h.bm.bb.head (by decide)) (hu.same h.bm.bb.row (by decide)), h.bm.lo, h.bm.ne⟩, h.bl6, h.lo⟩
theorem FlAt.other {g : Nat} {cs : Array Value} {t : TypeId} (h : FlAt w X vs ws m iw bw kd lk sz bl) (hu : Upd g w w') (hg : w.heap[g]? = some (.cells cs t (0, 0))) (hB : X.base ≤ g) (ht : t ≠ 102 ∧ t ≠ 170 ∧ t ≠ 168 ∧ t ≠ 123 ∧ t ≠ 228 ∧ t ≠ 103 ∧ stB t = false) : FlAt w' X vs ws m iw bw kd lk sz bl := by
  refine ⟨(hu.block _ (lt_of_heap h.head) (fun e => ?_)).trans h.head, h.dr.other hu hB (not_isD hg ⟨ht.1, ht.2.1, ht.2.2.1, ht.2.2.2.2.2.2⟩), h.bm.other hu (fun cs' => ⟨fun e => ?_, fun e => ?_⟩), h.bl6, h.lo⟩
  · have := h.head
    rw [e, hg] at this
    simp only [Option.some.injEq, Obj.cells.injEq] at this
    exact ht.2.2.2.1 this.2.1
  · rw [hg] at e
    simp only [Option.some.injEq, Obj.cells.injEq] at e
    exact ht.2.2.2.2.1 e.2.1
  · rw [hg] at e
    simp only [Option.some.injEq, Obj.cells.injEq] at e
    exact ht.2.2.2.2.2.1 e.2.1
set_option maxHeartbeats 2000000 in
set_option maxRecDepth 100000 in
theorem fblock_at (h : FlAt w X vs ws m iw bw kd lk sz bl) (hm : m ≤ 900000000000) (hbs : X.base ≤ w.heap.size) (k b : Nat) (hk : k < 6) (hb : bl.getD k 0 = b) (hd : isDat X.n b = true) :
    Calls Tryz.prog 133 #[ptr X.bf, .int .i64 (k : Int)] w fun e w' => e = .returned (.tuple #[.agg (urow (frameOf vs b)), .int .i64 0]) ∧ FlAt w' X vs ws (m + 1) iw bw kd lk sz bl ∧ ST X.B.lo w w' := by
  obtain ⟨W0, hW0⟩ : ∃ W, W = w.alloc (.cells zc 105) := ⟨_, rfl⟩
  have hb0 : Below w.heap.size w W0 := by rw [hW0]; exact below_alloc _ _
  have hr0 : W0.heap[w.heap.size]? = some (.cells zc 105) := by rw [hW0]; exact heap_alloc_new _ _
  have h0 := h.below hb0
  have hH := fhas_at h0 k hk
  rw [hb, hd] at hH
  have hbn : b < X.n := by simp only [isDat, Bool.and_eq_true, decide_eq_true_eq] at hd; exact hd.2
  have H0 : Hid (FlAt W0 X vs ws m iw bw kd lk sz bl) := h0
  have HB0 : Hid (Below w.heap.size w W0) := hb0
  have HR0 : Hid _ := hr0
  have HW0 : Hid _ := hW0
  have Hb : Hid (bl.getD k 0 = b) := hb
  have hki : (k : Int) < 6 := by omega
  have hz := lit_zc
  clear h h0 hb0 hr0 hW0 hb hd
  go_enter Tryz.func133, Tryz.ntmps133
  go_wp2_with fail
  rw [← HW0.out]
  refine hH.mono ?_
  rintro e w1 ⟨rfl, hb1⟩
  have h1 := H0.out.below hb1
  obtain ⟨c0, c1, c2, c3, c4, c5, c6⟩ := h1.c
  have cb := h1.blk hk
  rw [Hb.out] at cb
  obtain ⟨sv, s0, s1, s2⟩ := h1.dr.cells
  have hs : w1.cell? ⟨X.bf, 0, none⟩ = some (ptr X.bd) ∧ w1.cell? ⟨X.bd, 0, none⟩ = some (sto X.B) ∧ w1.cell? ⟨X.bf, 7 + k, none⟩ = some (.int .i64 (b : Int)) := ⟨c0, s0, cb⟩
  obtain ⟨sv', S, hdr⟩ := h1.dr
  have hdk := hdr.disk
  have hfew := hdr.few
  have hnn := hdr.nn
  have hG := iget_at (w := w1.drew) hdk.drew b hbn (by omega)
  have HD : Hid (DrAt w1.drew X.base X.bd X.B X.n vs ws m sv' S) := hdr.below (Di.drewN_below ⟨1, rfl⟩)
  have H1 : Hid (FlAt w1.drew X vs ws m iw bw kd lk sz bl) := h1.below (Di.drewN_below (w := w1) ⟨1, rfl⟩)
  have HFr1 : Hid (ST X.B.lo w w1) := SU.of_below (HB0.out.trans (hb1.mono HB0.out.size))
  have HR1 : Hid (w1.heap[w.heap.size]? = some (.cells zc 105)) := (hb1.block _ (lt_of_heap HR0.out)).trans HR0.out
  have HLn : Hid _ := frameOf_length vs b X.n hdk.len hbn
  obtain ⟨r0, hr0⟩ : ∃ r, r = w.heap.size := ⟨_, rfl⟩
  rw [← hr0] at HR1 ⊢
  have Hr0 : Hid (r0 = w.heap.size) := hr0
  obtain ⟨R, hR⟩ : ∃ R, R = urow (frameOf vs b) := ⟨_, rfl⟩
  have HRq : Hid (R = urow (frameOf vs b)) := hR
  have HRs : Hid (R.size = 32) := by show _ = _; rw [hR, urow_size]; exact HLn.out
  have HRo : Hid (R.all (·.oneCell') = true) := by show _ = _; rw [hR]; exact urow_one _
  rw [← hR] at hG
  clear hH h1 c0 c1 c2 c3 c4 c5 c6 cb s0 s1 s2 hdr hdk hb1 hr0 hR
  go_wp2_with fail
  refine wp_region_held_drew (S := fun w' => w'.cell? ⟨X.bf, 0, none⟩ = some (ptr X.bd) ∧ w'.cell? ⟨X.bd, 0, none⟩ = some (sto X.B) ∧ w'.cell? ⟨X.bf, 7 + k, none⟩ = some (.int .i64 (b : Int))) (by kernel_rfl) hs (fun hHeld => ?_)
  refine wpAnyH_take (i := 0) (v := ?_) rfl (by kernel_rfl) (by kernel_rfl) (by kernel_rfl) (fun _ _ _ h => h) (Or.inl ⟨by kernel_rfl, ?_⟩) (by assumption) ?_
  rotate_left
  · (intro w hSw; (try dsimp only at hSw); go_simp) <;> with_reducible rfl
  (try simp only [Act.put, List.getElem_toArray, List.getElem_cons_zero, List.setIfInBounds_toArray, List.set_cons_zero, List.set_cons_succ])
  refine wpAnyH_take (i := 1) (v := ?_) rfl (by kernel_rfl) (by kernel_rfl) (by kernel_rfl) (fun _ _ _ h => h) (Or.inl ⟨by kernel_rfl, ?_⟩) (by assumption) ?_
  rotate_left
  · (intro w hSw; (try dsimp only at hSw); go_simp) <;> with_reducible rfl
  (try simp only [Act.put, List.getElem_toArray, List.getElem_cons_zero, List.getElem_cons_succ, List.setIfInBounds_toArray, List.set_cons_zero, List.set_cons_succ])
  refine wpAnyH_take (i := 2) (v := ?_) rfl (by kernel_rfl) (by kernel_rfl) (by kernel_rfl) (fun _ _ _ h => h) (Or.inl ⟨by kernel_rfl, ?_⟩) (by assumption) ?_
  rotate_left
  · (intro w hSw; (try dsimp only at hSw); go_simp) <;> with_reducible rfl
  (try simp only [Act.put, List.getElem_toArray, List.getElem_cons_zero, List.getElem_cons_succ, List.setIfInBounds_toArray, List.set_cons_zero, List.set_cons_succ])
  refine wpAnyH_take (i := 3) (v := ?_) rfl (by kernel_rfl) (by kernel_rfl) (by kernel_rfl) (fun _ _ _ h => h) (Or.inl ⟨by kernel_rfl, ?_⟩) (by assumption) ?_
  rotate_left
  · (intro w hSw; (try dsimp only at hSw); go_simp) <;> with_reducible rfl
  (try simp only [Act.put, List.getElem_toArray, List.getElem_cons_zero, List.getElem_cons_succ, List.setIfInBounds_toArray, List.set_cons_zero, List.set_cons_succ])
  refine wpAnyH_take (i := 4) (v := ?_) rfl (by kernel_rfl) (by kernel_rfl) (by kernel_rfl) (fun _ _ _ h => h) (Or.inl ⟨by kernel_rfl, ?_⟩) (by assumption) ?_
  rotate_left
  · (intro w hSw; (try dsimp only at hSw); go_simp) <;> with_reducible rfl
  (try simp only [Act.put, List.getElem_toArray, List.getElem_cons_zero, List.getElem_cons_succ, List.setIfInBounds_toArray, List.set_cons_zero, List.set_cons_succ])
  refine wpAnyH_take (i := 5) (v := ?_) rfl (by kernel_rfl) (by kernel_rfl) (by kernel_rfl) (fun _ _ _ h => h) (Or.inl ⟨by kernel_rfl, ?_⟩) (by assumption) ?_
  rotate_left
  · (intro w hSw; (try dsimp only at hSw); go_simp) <;> with_reducible rfl
  (try simp only [Act.put, List.getElem_toArray, List.getElem_cons_zero, List.getElem_cons_succ, List.setIfInBounds_toArray, List.set_cons_zero, List.set_cons_succ])
  refine wpAnyH_take (i := 6) (v := ?_) rfl (by kernel_rfl) (by kernel_rfl) (by kernel_rfl) (fun _ _ _ h => h) (Or.inl ⟨by kernel_rfl, ?_⟩) (by assumption) ?_
  rotate_left
  · (intro w hSw; (try dsimp only at hSw); go_simp) <;> with_reducible rfl
  (try simp only [Act.put, List.getElem_toArray, List.getElem_cons_zero, List.getElem_cons_succ, List.setIfInBounds_toArray, List.set_cons_zero, List.set_cons_succ])
  refine wpAnyH_take (i := 7) (v := ?_) rfl (by kernel_rfl) (by kernel_rfl) (by kernel_rfl) (fun _ _ _ h => h) (Or.inl ⟨by kernel_rfl, ?_⟩) (by assumption) ?_
  rotate_left
  · (intro w hSw; (try dsimp only at hSw); go_simp) <;> with_reducible rfl
  (try simp only [Act.put, List.getElem_toArray, List.getElem_cons_zero, List.getElem_cons_succ, List.setIfInBounds_toArray, List.set_cons_zero, List.set_cons_succ])
  refine wpAnyH_take (i := 8) (v := ?_) rfl (by kernel_rfl) (by kernel_rfl) (by kernel_rfl) (fun _ _ _ h => h) (Or.inl ⟨by kernel_rfl, ?_⟩) (by assumption) ?_
  rotate_left
  · (intro w hSw; (try dsimp only at hSw); go_simp) <;> with_reducible rfl
  (try simp only [Act.put, List.getElem_toArray, List.getElem_cons_zero, List.getElem_cons_succ, List.setIfInBounds_toArray, List.set_cons_zero, List.set_cons_succ])
  refine wpAnyH_take (i := 9) (v := ?_) rfl (by kernel_rfl) (by kernel_rfl) (by kernel_rfl) (fun _ _ _ h => h) (Or.inl ⟨by kernel_rfl, ?_⟩) (by assumption) ?_
  rotate_left
  · (intro w hSw; (try dsimp only at hSw); go_simp) <;> with_reducible rfl
  (try simp only [Act.put, List.getElem_toArray, List.getElem_cons_zero, List.getElem_cons_succ, List.setIfInBounds_toArray, List.set_cons_zero, List.set_cons_succ])
  refine wpAnyH_take (i := 10) (v := ?_) rfl (by kernel_rfl) (by kernel_rfl) (by kernel_rfl) (fun _ _ _ h => h) (Or.inl ⟨by kernel_rfl, ?_⟩) (by assumption) ?_
  rotate_left
  · (intro w hSw; (try dsimp only at hSw); go_simp) <;> with_reducible rfl
  (try simp only [Act.put, List.getElem_toArray, List.getElem_cons_zero, List.getElem_cons_succ, List.setIfInBounds_toArray, List.set_cons_zero, List.set_cons_succ])
  refine wpAnyH_take (i := 11) (v := ?_) rfl (by kernel_rfl) (by kernel_rfl) (by kernel_rfl) (fun _ _ _ h => h) (Or.inl ⟨by kernel_rfl, ?_⟩) (by assumption) ?_
  rotate_left
  · (intro w hSw; (try dsimp only at hSw); go_simp) <;> with_reducible rfl
  (try simp only [Act.put, List.getElem_toArray, List.getElem_cons_zero, List.getElem_cons_succ, List.setIfInBounds_toArray, List.set_cons_zero, List.set_cons_succ])
  refine wpAnyH_take (i := 12) (v := ?_) rfl (by kernel_rfl) (by kernel_rfl) (by kernel_rfl) (fun _ _ _ h => h) (Or.inl ⟨by kernel_rfl, ?_⟩) (by assumption) ?_
  rotate_left
  · (intro w hSw; (try dsimp only at hSw); go_simp) <;> with_reducible rfl
  (try simp only [Act.put, List.getElem_toArray, List.getElem_cons_zero, List.getElem_cons_succ, List.setIfInBounds_toArray, List.set_cons_zero, List.set_cons_succ])
  refine wpAnyH_take (i := 13) (v := ?_) rfl (by kernel_rfl) (by kernel_rfl) (by kernel_rfl) (fun _ _ _ h => h) (Or.inl ⟨by kernel_rfl, ?_⟩) (by assumption) ?_
  rotate_left
  · (intro w hSw; (try dsimp only at hSw); go_simp) <;> with_reducible rfl
  (try simp only [Act.put, List.getElem_toArray, List.getElem_cons_zero, List.getElem_cons_succ, List.setIfInBounds_toArray, List.set_cons_zero, List.set_cons_succ])
  refine wpAnyH_ready (rs := [14]) (by kernel_rfl) (by simp) ?_
  refine AllReadyH.cons rfl (fun K hK => ?_) AllReadyH.nil
  go_simp
  refine hG.mono ?_
  rintro e w2 ⟨rfl, hd2, hu2⟩
  have hdr2 : DrAt w2 X.base X.bd X.B X.n vs ws (m + 1) sv' S := HD.out.got hd2 hu2
  have h2 : FlAt w2 X vs ws (m + 1) iw bw kd lk sz bl := H1.out.got ⟨_, _, hdr2⟩ hu2
  have hlo := h2.lo
  have hbk : w2.heap[X.bf]? = w1.heap[X.bf]? := hu2.same H1.out.head (by decide)
  obtain ⟨sv2, t0, t1, t2⟩ := h2.dr.cells
  have hs2 : w2.cell? ⟨X.bf, 0, none⟩ = some (ptr X.bd) ∧ w2.cell? ⟨X.bd, 0, none⟩ = some (sto X.B) ∧ w2.cell? ⟨X.bf, 7 + k, none⟩ = some (.int .i64 (b : Int)) := ⟨(World.cell?_of_block hbk).trans hs.1, t0, (World.cell?_of_block hbk).trans hs.2.2⟩
  have hr2 : w2.heap[r0]? = some (.cells zc 105) := hu2.other HR1.out (by decide)
  have H2 : Hid (FlAt w2 X vs ws (m + 1) iw bw kd lk sz bl) := h2
  have HR2 : Hid _ := hr2
  have HFr2 : Hid (ST X.B.lo w w2) := SU.trans (SU.trans HFr1.out (SU.of_below (Di.drewN_below (w := w1) ⟨1, rfl⟩))) hu2
  have h3 := h2.other (Upd.setRow r0 w2 R) hr2 (by rw [Hr0.out]; exact hbs) (by decide)
  have H3 : Hid (FlAt (w2.setRow r0 R) X vs ws (m + 1) iw bw kd lk sz bl) := h3
  have HFr3 : Hid (ST X.B.lo w (w2.setRow r0 R)) := HFr2.out.far (by rw [Hr0.out]; exact Nat.le_refl _)
  have hbk3 : (w2.setRow r0 R).heap[X.bf]? = w2.heap[X.bf]? := h3.head.trans h2.head.symm
  obtain ⟨sv3, v0, v1, v2⟩ := h3.dr.cells
  have hs3 : (w2.setRow r0 R).cell? ⟨X.bf, 0, none⟩ = some (ptr X.bd) ∧ (w2.setRow r0 R).cell? ⟨X.bd, 0, none⟩ = some (sto X.B) ∧ (w2.setRow r0 R).cell? ⟨X.bf, 7 + k, none⟩ = some (.int .i64 (b : Int)) := ⟨(World.cell?_of_block hbk3).trans hs2.1, v0, (World.cell?_of_block hbk3).trans hs2.2.2⟩
  have HR3 : Hid ((w2.setRow r0 R).heap[r0]? = some (.cells R 105)) := setRow_heap w2 r0 _ _ _ _ hr2
  clear hG hd2 hu2 hdr2 h2 hlo hbk t0 t1 t2 hr2 h3 hbk3 v0 v1 v2
  refine hK.out _ _ hs2 (fun hHeld => ?_)
  clear hK K
  (try simp only [Act.put, List.getElem_toArray, List.getElem_cons_zero, List.getElem_cons_succ, List.setIfInBounds_toArray, List.set_cons_zero, List.set_cons_succ])
  refine wpAnyH_take (i := 15) (v := ?_) rfl (by kernel_rfl) (by kernel_rfl) (by kernel_rfl) (fun _ _ _ h => h) (Or.inl ⟨by kernel_rfl, ?_⟩) (by assumption) ?_
  rotate_left
  · (intro w hSw; (try dsimp only at hSw); go_simp) <;> with_reducible rfl
  (try simp only [Act.put, List.getElem_toArray, List.getElem_cons_zero, List.getElem_cons_succ, List.setIfInBounds_toArray, List.set_cons_zero, List.set_cons_succ])
  refine wpAnyH_take (i := 16) (v := ?_) rfl (by kernel_rfl) (by kernel_rfl) (by kernel_rfl) (fun _ _ _ h => h) (Or.inl ⟨by kernel_rfl, ?_⟩) (by assumption) ?_
  rotate_left
  · (intro w hSw; (try dsimp only at hSw); go_simp) <;> with_reducible rfl
  (try simp only [Act.put, List.getElem_toArray, List.getElem_cons_zero, List.getElem_cons_succ, List.setIfInBounds_toArray, List.set_cons_zero, List.set_cons_succ])
  refine wpAnyH_ready (rs := [17]) (by kernel_rfl) (by simp) ?_
  refine AllReadyH.cons rfl (fun K hK => ?_) AllReadyH.nil
  refine step_store_row rfl 105 _ _ rfl r0 R rfl rfl 105 zc HR2.out (by rw [HRs.out]; exact contSize) (by rw [HRs.out]; rfl) HRo.out ?_
  refine hK.out _ _ hs3 (fun hHeld => ?_)
  clear hK K
  (try simp only [Act.put, List.getElem_toArray, List.getElem_cons_zero, List.getElem_cons_succ, List.setIfInBounds_toArray, List.set_cons_zero, List.set_cons_succ])
  refine wpAnyH_take (i := 18) (v := ?_) rfl (by kernel_rfl) (by kernel_rfl) (by kernel_rfl) (fun _ _ _ h => h) (Or.inl ⟨by kernel_rfl, ?_⟩) (by assumption) ?_
  rotate_left
  · (intro w hSw; (try dsimp only at hSw); go_simp) <;> with_reducible rfl
  (try simp only [Act.put, List.getElem_toArray, List.getElem_cons_zero, List.getElem_cons_succ, List.setIfInBounds_toArray, List.set_cons_zero, List.set_cons_succ])
  refine wpAnyH_done (by kernel_rfl) ?_ _
  clear hs hs2 hs3
  go_wp2
  refine bodyPost_ret (v := .tuple #[.agg R, .int .i64 0]) ?_ rfl ⟨by rw [HRq.out], H3.out, HFr3.out⟩
  rw [results_cell_tmp rfl]
  show ((asAddr (.pointer (some ⟨r0, 0, none⟩))).run _ _).andThen _ = _
  simp only [asAddr, Sem.run_pure, Result.andThen_ok]
  rw [run_loadVar_row _ r0 _ _ R (0, 0) _ HR3.out Tryz.underlying105 rfl (by rw [HRs.out]; exact contSize)]
  rfl
end
end Go.Proofs.YtcjpahnlckfgoaaGreatDoor
