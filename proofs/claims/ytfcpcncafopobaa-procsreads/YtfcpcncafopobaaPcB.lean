/- Package procs: Begin, those, All. -/
import Derived.Test.YtfcpcncafopobaaPcA
import Derived.Test.YtfcpcncafopobaaPcU
import Derived.Test.YtfcpcncafopobaaPcS
namespace Go.Proofs.Ytfcpcncafopobaa
open Go.RowKit Go.Maps
set_option linter.unusedVariables false

theorem MapO.len {P : Program} {w : World} {q : IntKind} {mo : Option Nat} {f : Int → Option Value} (h : MapO w q mo f) {t k e : TypeId} (ht : P.underlying t = some (.map k e)) :
    ∃ n : Nat, (∀ ty, (Builtin.len_ #[t] ty #[.map mo]).run P w = .ok (.int .i64 n) w) ∧ ((∃ a, (f a).isSome = true) → 0 < n) ∧ ((∀ a, f a = none) → n = 0) := by
  rcases h with ⟨rfl, hf⟩ | ⟨b, rfl, es, clock, hb, he, hst⟩
  · refine ⟨0, fun ty => by simp [Builtin.len_, run_underlying ht, goInt, Result.andThen], fun ⟨a, ha⟩ => ?_, fun _ => rfl⟩
    rw [hf a] at ha
    cases ha
  · refine ⟨es.size, fun ty => by simp [Builtin.len_, run_underlying ht, MapKept.run_getObj_map hb, goInt, Result.andThen], fun ⟨a, ha⟩ => ?_, fun hn => ?_⟩
    · obtain ⟨v, hv⟩ := Option.isSome_iff_exists.1 ha
      obtain ⟨i, x, hx, _⟩ := he.all a v hv
      have := (Array.getElem?_eq_some_iff.1 hx).1
      omega
    · rcases Nat.eq_zero_or_pos es.size with h0 | h0
      · exact h0
      · obtain ⟨a, _, ha⟩ := he.key 0 es[0] (by simp [h0])
        rw [hn a] at ha
        cases ha
theorem all_nil {S : St} (hd : Dom S) (h : lstF S (fun _ => true) = []) (k : Int) : S k = none := by
  cases e : S k with
  | none => rfl
  | some p =>
    have : k ∈ lstF S (fun _ => true) := (mem_lst hd).2 (by unfold hits; rw [e])
    rw [h] at this
    simp at this
set_option maxHeartbeats 1000000 in
theorem begin_at (B b : Nat) (S : St) (w : World) (h : PrAt w B b S) :
    Calls Try.prog 9 #[ptr b] w fun e w' => e = .returned (.int .i64 (beN S)) ∧ PrAt w' B b (beS S) ∧ Tch B w w' := by
  have hA := h
  obtain ⟨mo, c, h⟩ := h
  have c0 := h.cell
  have hne := eq_procs b
  obtain ⟨n, hlen, hn1, hn2⟩ := h.map.len (P := Try.prog) (t := 64) Try.underlying64
  by_cases hk : lstF S (fun _ => true) = []
  · have hn0 : n = 0 := hn2 (fun a => by unfold pf; rw [all_nil h.dom hk a]; rfl)
    subst hn0
    have hp := put_at B b S 1 ⟨0, false, 0⟩ w hA (by omega) (by omega) (all_nil h.dom hk 1)
    have HR : Hid (beN S = 1 ∧ beS S = stPut S 1 ⟨0, false, 0⟩) := by
      unfold beN beS
      exact ⟨if_pos hk, if_pos hk⟩
    clear h hk hn1 hn2 hA
    go_enter Try.func9, Try.ntmps9
    go_wp2_with fail
    refine hp.mono ?_
    rintro e w1 ⟨rfl, hA, hT⟩
    have HA : Hid (PrAt w1 B b (stPut S 1 ⟨0, false, 0⟩)) := hA
    have HT : Hid (Tch B w w1) := hT
    clear hA hT hp
    go_wp2
    go_ret
    obtain ⟨e1, e2⟩ := HR.out
    exact ⟨by rw [e1]; rfl, by rw [e2]; exact HA.out, HT.out⟩
  · have hn0 : 0 < n := by
      refine hn1 ?_
      obtain ⟨k, hkm⟩ := List.exists_mem_of_ne_nil _ hk
      have := (mem_lst h.dom).1 hkm
      unfold hits at this
      refine ⟨k, ?_⟩
      unfold pf
      cases e : S k with
      | none => rw [e] at this; cases this
      | some p => rfl
    have g0 : decide (0 < (n : Int)) = true := decide_eq_true (by omega)
    have HR : Hid (beN S = 0 ∧ beS S = S) := by
      unfold beN beS
      exact ⟨if_neg hk, if_neg hk⟩
    have HA : Hid (PrAt w B b S) := hA
    have hn3 : (0 : Int) < (n : Int) := by omega
    clear h hk hn1 hn2 hA hn0
    go_enter Try.func9, Try.ntmps9
    go_wp2
    go_ret
    obtain ⟨e1, e2⟩ := HR.out
    exact ⟨by rw [e1]; rfl, by rw [e2]; exact HA.out, Tch.refl _ _⟩
/-- What the loop has collected. -/
structure Coll (S : St) (t : Pr → Bool) (left : Int → Bool) (xs : List Int) : Prop where
  nd : xs.Nodup
  mem : ∀ k, k ∈ xs ↔ hits S t k = true ∧ left k = false
theorem Coll.len {S : St} {t : Pr → Bool} {left : Int → Bool} {xs : List Int} (h : Coll S t left xs) (hd : Dom S) : xs.length ≤ 8 := by
  refine len_bound 8 xs h.nd (fun k hk => ?_)
  have := ((h.mem k).1 hk).1
  unfold hits at this
  cases e : S k with
  | none => rw [e] at this; cases this
  | some p => exact hd k p e
theorem Coll.start {S : St} {t : Pr → Bool} {c : Int → Nat} : Coll S t (fun a => (pf S c a).isSome) [] := by
  refine ⟨by simp, fun k => ⟨fun h => by simp at h, fun ⟨h1, h2⟩ => ?_⟩⟩
  unfold hits at h1
  unfold pf at h2
  cases e : S k with
  | none => rw [e] at h1; cases h1
  | some p => rw [e] at h2; cases h2
theorem Coll.yes {S : St} {t : Pr → Bool} {left : Int → Bool} {xs : List Int} (h : Coll S t left xs) {x : Int} {p : Pr} (hl : left x = true) (hx : S x = some p) (ht : t p = true) : Coll S t (fun z => left z && z != x) (xs ++ [x]) := by
  have hxm : x ∉ xs := fun q => by rw [((h.mem x).1 q).2] at hl; cases hl
  refine ⟨?_, fun k => ?_⟩
  · rw [List.nodup_append]
    exact ⟨h.nd, by simp, fun a ha b hb e => by simp at hb; rw [e, hb] at ha; exact hxm ha⟩
  · rw [List.mem_append, List.mem_singleton, h.mem]
    by_cases e : k = x
    · subst e
      have : hits S t k = true := by unfold hits; rw [hx]; exact ht
      simp [this]
    · simp [e]
theorem Coll.no {S : St} {t : Pr → Bool} {left : Int → Bool} {xs : List Int} (h : Coll S t left xs) {x : Int} {p : Pr} (hx : S x = some p) (ht : t p = false) : Coll S t (fun z => left z && z != x) xs := by
  refine ⟨h.nd, fun k => ?_⟩
  rw [h.mem]
  by_cases e : k = x
  · subst e
    have : hits S t k = false := by unfold hits; rw [hx]; exact ht
    simp [this]
  · simp [e]
theorem Coll.all {S : St} {t : Pr → Bool} {left : Int → Bool} {xs : List Int} (h : Coll S t left xs) (hd : Dom S) (hl : ∀ k, left k = false) : xs.mergeSort (fun x y => decide (x ≤ y)) = lstF S t :=
  sorted_lst hd h.nd (fun k => by rw [h.mem]; simp [hl k])
theorem pf_ptr {S : St} {c : Int → Nat} (x : Int) (v : Value) (h : pf S c x = some v) : v = ptr (c x) := by
  unfold pf at h
  obtain ⟨p, _, e⟩ := Option.map_eq_some_iff.1 h
  exact e.symm
theorem pf_some (S : St) (c : Int → Nat) (k : Int) : (pf S c k).isSome = (S k).isSome := by unfold pf; cases S k <;> rfl
theorem below_upd {B r : Nat} {a b c : World} (h : Below B a b) (hu : Upd r b c) (hr : B ≤ r) (hs : B ≤ b.heap.size) : Below B a c := h.trans (hu.below hr hs)
theorem drewN_bel (w : World) (q : Nat) : Below w.heap.size w (w.drewN q) := ⟨rfl, rfl, rfl, Nat.le_refl _, fun _ _ => rfl⟩
set_option maxRecDepth 100000 in
set_option maxHeartbeats 4000000 in
theorem those_at (B b : Nat) (S : St) (N : Nat) (caps : Array Value) (t : Pr → Bool) (w : World) (h : PrAt w B b S)
    (hcf : ∀ (args : Array Value) (W : World), (callFunc N args).run Try.prog W = .ok (.enter N args) W)
    (hdo : ∀ (W : World) (c : Nat) (p : Pr), Below w.heap.size w W → W.heap[c]? = some (.cells (prow p) 69) → Calls Try.prog N (#[ptr c] ++ caps) W fun e W' => e = .returned (.bool (t p)) ∧ ∃ q, W' = W.drewN q) :
    Calls Try.prog 35 #[ptr b, .func (.func N) #[] caps] w fun e w' => ∃ a cap, e = .returned (.slice a (lstF S t).length cap) ∧ IRow w' a (lstF S t) ∧ Below w.heap.size w w' := by
  obtain ⟨mo, c, h⟩ := h
  have HH : Hid (PrIs w B b mo c S) := h
  have HM : Hid (MapO w .i64 mo (pf S c)) := h.map
  have HD : Hid (Dom S) := h.dom
  have HDo : Hid (∀ (W : World) (c : Nat) (p : Pr), Below w.heap.size w W → W.heap[c]? = some (.cells (prow p) 69) → Calls Try.prog N (#[ptr c] ++ caps) W fun e W' => e = .returned (.bool (t p)) ∧ ∃ q, W' = W.drewN q) := hdo
  have c0 := h.cell
  clear h hdo
  go_enter Try.func35, Try.ntmps35
  go_wp2_with (first | (at_range; refine wpList_range_o rfl _ _ _ _ rfl Try.underlying64 .i64 mo (pf S c) rfl HM.out ?_; intro w0 n0 hrg0 hb0 hs0) | go_in)
  go_frame
  have HR0 : Hid (RngO w0 .i64 mo w.heap.size (pf S c) (fun a => (pf S c a).isSome) n0) := hrg0
  have HB0 : Hid (Below w.heap.size w w0) := hb0
  obtain ⟨r, hr⟩ : ∃ r, r = w.heap.size := ⟨_, rfl⟩
  rw [← hr] at HR0 ⊢
  have Hr : Hid (r = w.heap.size) := hr
  clear hrg0 hb0 hs0 c0 hr
  go_loopw [5] (fun s wr => ∃ (left : Int → Bool) (n : Nat) (xs : List Int) (ak : Option Addr) (nk ck : Nat), .slice ak nk ck = s ∧ nk = xs.length ∧ Coll S t left xs ∧ RngO wr .i64 mo r (pf S c) left n ∧ wr.ownsRow (r + 1) 3 1 (.slice ak nk ck) xs.length (ivs xs) ∧ Below w.heap.size w wr) (fun _ wr => mleft mo r wr)
  case atStart => exact ⟨_, n0, [], none, 0, 0, rfl, rfl, Coll.start, HR0.out, World.ownsRow_nil _ _ _ 1, HB0.out⟩
  case round =>
    clear HR0 HB0
    obtain ⟨left, n, xs, ak, nk, ck, rfl, hnk, hC, hrg, hown, hB⟩ := hrel
    have HC : Hid (Coll S t left xs) := hC
    have HRg : Hid (RngO wr .i64 mo r (pf S c) left n) := hrg
    have HO : Hid (wr.ownsRow (r + 1) 3 1 (.slice ak nk ck) xs.length (ivs xs)) := hown
    have HB : Hid (Below w.heap.size w wr) := hB
    have HN : Hid (nk = xs.length) := hnk
    clear hC hrg hown hB hnk
    go_wp2_with (first | (at_next; refine wpList_next_o rfl _ rfl .i64 mo r (pf S c) (fun x => ptr (c x)) pf_ptr left n rfl HRg.out ?_ ?_) | go_in)
    · intro hl0
      have HS : Hid (xs.mergeSort (fun x y => decide (x ≤ y)) = lstF S t) := HC.out.all HD.out hl0
      have hxl : nk ≤ 8 := by rw [HN.out]; exact HC.out.len HD.out
      clear hl0
      by_cases hn : nk = 0
      · have hD : xs = [] := List.eq_nil_of_length_eq_zero (by rw [← HN.out]; exact hn)
        have HL : Hid (lstF S t = []) := by show lstF S t = []; rw [← HS.out, hD]; simp
        subst hn
        have hS := slices_Sort_int_none ak ck wr
        clear hD hxl
        go_wp2_with fail
        refine hS.mono ?_
        rintro e w1 ⟨rfl, hw⟩
        rw [hw]
        clear hw w1 hS
        go_wp2
        go_ret
        refine ⟨ak, ck, by rw [HL.out]; rfl, ?_, HB.out⟩
        rw [HL.out]
        intro j x hx
        simp at hx
      · obtain ⟨g, cap, e2, hgl, hgu⟩ := HO.out.form (by rw [← HN.out]; omega)
        rw [← HN.out] at e2
        cases e2
        have hO2 := HO.out
        have hH := holds_own (by rw [HN.out] at hO2; exact hO2)
        have hlow := ownsRow_low HO.out g rfl
        have hS := slices_Sort_int g 0 ck xs wr hH hgu (by rw [← HN.out]; omega)
        obtain ⟨M, hMq⟩ : ∃ M, M = lstF S t := ⟨_, rfl⟩
        rw [HS.out, ← hMq, ← HN.out] at hS
        have HHo : Hid (Go.Sort.Holds (Value.int .i64) wr g 0 xs.toArray) := hH
        have HLn : Hid (M.length = nk) := by show _ = nk; rw [hMq, ← HS.out, List.length_mergeSort]; exact HN.out.symm
        have HMq : Hid (M = lstF S t) := hMq
        have HLow : Hid (r + 1 ≤ g) := hlow
        clear hH hlow hgu hgl hO2 hMq
        go_wp2_with fail
        refine hS.mono ?_
        rintro e w1 ⟨rfl, nn, os, hw⟩
        have hB1 : Below w.heap.size w w1 := by
          rw [hw]
          exact below_growR (below_putRow HB.out (by have := HLow.out; have := Hr.out; omega) _) (by have := HB.out.size; simp; omega) _
        have hH1 : Go.Sort.Holds (Value.int .i64) w1 g 0 M.toArray := by
          rw [hw]
          refine Go.Sort.holds_grow _ _ _ _ _ _ ?_ ?_
          · have := HO.out.lt g rfl; simp; omega
          · exact Go.Sort.holds_putRow _ _ _ _ xs.toArray _ (Go.Sort.holds_ahead _ _ _ _ _ _ HHo.out) (by have := HLn.out; have := HN.out; simp; omega)
        have HB1 : Hid (Below w.heap.size w w1) := hB1
        have HI : Hid (IRow w1 (some ⟨g, 0, none⟩) M) := irow_holds (E := []) (by rw [List.append_nil]; exact hH1)
        clear hS hw hB1 hH1
        go_wp2
        go_ret
        rw [← HMq.out]
        exact ⟨some ⟨g, 0, none⟩, ck, by rw [HLn.out]; rfl, HI.out, HB1.out⟩
    · intro x w1 n1 hlx hdx hrg1 hlt1 hu1 hs1 hen
      have HRg1 : Hid (RngO w1 .i64 mo r (pf S c) (fun z => left z && z != x) n1) := hrg1
      have HLt : Hid (n1 < n) := hlt1
      have HB1 : Hid (Below w.heap.size w w1) := below_upd HB.out hu1 (by have := Hr.out; omega) HB.out.size
      have HO1 : Hid (w1.ownsRow (r + 1) 3 1 (.slice ak nk ck) xs.length (ivs xs)) := ownsRow_at HO.out (fun g hg => by
        have hgl := HO.out.lt g hg
        exact hu1.block g hgl.2 (by omega))
      obtain ⟨p, hp⟩ : ∃ p, S x = some p := by
        unfold pf at hdx
        cases e : S x with
        | none => rw [e] at hdx; cases hdx
        | some p => exact ⟨p, rfl⟩
      have hcell := ((HH.out.below HB1.out).pr x p hp)
      have hD := HDo.out w1 (c x) p HB1.out hcell
      have HP : Hid (S x = some p) := hp
      have HLx : Hid (left x = true) := hlx
      have hxl : nk ≤ 8 := by rw [HN.out]; exact HC.out.len HD.out
      clear hrg1 hlt1 hu1 hs1 hdx hcell hp hlx HB HO
      generalize hcx : c x = cx at *
      clear hcx
      go_wp2_with fail
      refine hD.mono ?_
      rintro e w2 ⟨rfl, q, hw⟩
      rw [hw]
      clear hw w2 hD hen
      have HRg2 : Hid (RngO (w1.drewN q) .i64 mo r (pf S c) (fun z => left z && z != x) n1) := HRg1.out.of_blocks (fun _ _ => rfl) rfl
      have HB2 : Hid (Below w.heap.size w (w1.drewN q)) := HB1.out.trans ((drewN_bel w1 q).mono HB1.out.size)
      have HO2 : Hid ((w1.drewN q).ownsRow (r + 1) 3 1 (.slice ak nk ck) xs.length (ivs xs)) := ownsRow_at HO1.out (fun _ _ => rfl)
      clear HRg1 HB1 HO1
      generalize w1.drewN q = W at *
      cases htp : t p with
      | false =>
        have HC2 : Hid (Coll S t (fun z => left z && z != x) xs) := HC.out.no HP.out htp
        clear htp
        go_wp2
        go_roundw
        case rel => exact ⟨_, n1, xs, ak, nk, ck, rfl, HN.out, HC2.out, HRg2.out, HO2.out, HB2.out⟩
        case measure => rw [HRg2.out.left_eq, HRg.out.left_eq]; exact HLt.out
      | true =>
        have HC2 : Hid (Coll S t (fun z => left z && z != x) (xs ++ [x])) := HC.out.yes HLx.out HP.out htp
        obtain ⟨a', c', w3, hrun, hown3, hgr3⟩ := app1i HO2.out HN.out.symm HRg2.out.lt (by omega) x
        have HN3 : Hid (nk + 1 = (xs ++ [x]).length) := by show _ = _; rw [List.length_append, ← HN.out]; rfl
        have HRg3 : Hid (RngO w3 .i64 mo r (pf S c) (fun z => left z && z != x) n1) := by
          refine HRg2.out.of_blocks (fun m e => hgr3.block m (HRg2.out.mlt m e) (fun e2 => ?_)) (hgr3.block r HRg2.out.lt (fun e2 => ?_))
          · have := ownsRow_low HO2.out m e2.symm
            have := HH.out.mlt m e
            have := Hr.out
            omega
          · have := ownsRow_low HO2.out r e2.symm
            omega
        have HB3 : Hid (Below w.heap.size w w3) := HB2.out.trans (below_grown hgr3 HB2.out.size (fun g hg => by have := ownsRow_low HO2.out g hg; have := Hr.out; omega))
        have HO3 : Hid (w3.ownsRow (r + 1) 3 1 (.slice a' (nk + 1) c') (xs ++ [x]).length (ivs (xs ++ [x]))) := hown3
        have HRun : Hid _ := hrun
        clear htp hrun hown3 hgr3
        go_wp2_with (at_builtin; refine wpList_append_eq rfl _ _ _ rfl _ _ _ rfl rfl HRun.out ?_)
        go_roundw
        case rel => exact ⟨_, n1, xs ++ [x], a', nk + 1, c', rfl, HN3.out, HC2.out, HRg3.out, HO3.out, HB3.out⟩
        case measure => rw [HRg3.out.left_eq, HRg.out.left_eq]; exact HLt.out
theorem lives_cf (args : Array Value) (W : World) : (callFunc 40 args).run Try.prog W = .ok (.enter 40 args) W := by kernel_rfl
theorem all_nil_at (w : World) : Calls Try.prog 24 #[.pointer none] w fun e w' => e = .returned (.slice none 0 0) ∧ w' = w := by
  go_enter Try.func24, Try.ntmps24
  go_wp2
  go_ret
  exact ⟨rfl, rfl⟩
theorem all_at (B b : Nat) (S : St) (w : World) (h : PrAt w B b S) :
    Calls Try.prog 24 #[ptr b] w fun e w' => ∃ a cap, e = .returned (.slice a (lstF S (fun p => !p.zom)).length cap) ∧ IRow w' a (lstF S (fun p => !p.zom)) ∧ Below w.heap.size w w' := by
  have hT := those_at B b S 40 #[] (fun p => !p.zom) w h lives_cf (fun W c p hb hc => by
    refine (lives_at c p.zom W (by rw [cell_of_heap hc]; rfl)).mono ?_
    rintro e w' ⟨rfl, rfl⟩
    exact ⟨rfl, 0, rfl⟩)
  have hne := eq_procs b
  clear h
  go_enter Try.func24, Try.ntmps24
  go_wp2_with fail
  refine hT.mono ?_
  rintro e w1 ⟨a, cap, rfl, hI, hB⟩
  have HE : Hid (IRow w1 a (lstF S (fun p => !p.zom)) ∧ Below w.heap.size w w1) := ⟨hI, hB⟩
  clear hT hI hB
  obtain ⟨L, hL⟩ : ∃ L, L = lstF S (fun p => !p.zom) := ⟨_, rfl⟩
  rw [← hL] at HE ⊢
  have HL : Hid (L = lstF S (fun p => !p.zom)) := hL
  clear hL
  go_wp2
  go_ret
  rw [← HL.out]
  exact ⟨a, cap, rfl, HE.out⟩
end Go.Proofs.Ytfcpcncafopobaa
