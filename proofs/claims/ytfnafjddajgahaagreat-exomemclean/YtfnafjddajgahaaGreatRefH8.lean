/- The reference of package caps: Revoke; janusref01.Has. -/
import Derived.Test.YtfnafjddajgahaaGreatRefF8
namespace Go.Proofs.YtfnafjddajgahaaGreat
open Go.RowKit
namespace Ca
set_option linter.unusedVariables false

theorem rin_at (D : List Int) (a : Option Addr) (cap : Nat) (n : Int) (w : World) (ha : IRow w a D) (hl : D.length ≤ 1000000) :
    Calls Tryz.prog 110 #[.slice a D.length cap, .int .i64 n] w fun e w' => e = .returned (.bool (D.contains n)) ∧ w' = w := by
  have HA : Hid _ := ha
  clear ha
  go_enter Tryz.func110, Tryz.ntmps110
  go_wp2
  go_loopw [5] (fun s wr => ∃ (k : Nat), k ≤ D.length ∧ s = .int .i64 k ∧ Hid (∀ (j : Nat) (x : Int), j < k → D[j]? = some x → x ≠ n) ∧ wr = w) (fun s _ => D.length - (intOf s).toNat)
  case atStart => exact ⟨0, by omega, rfl, (show Hid _ from fun j x hj => absurd hj (Nat.not_lt_zero _)), rfl⟩
  case round =>
    obtain ⟨k, hk, rfl, HN, hw⟩ := hrel
    subst hw
    by_cases hlt : k < D.length
    · obtain ⟨x, hx⟩ : ∃ x, D[k]? = some x := ⟨D[k], List.getElem?_eq_getElem hlt⟩
      obtain ⟨ga, oa, rfl, c0⟩ := HA.out k x hx
      by_cases e : x = n
      · subst e
        have HF : Hid (D.contains x = true) := by show D.contains x = true; rw [List.contains_iff_mem]; exact List.mem_of_getElem? hx
        clear hx HN
        go_wp2
        go_ret
        exact ⟨by rw [HF.out]; rfl, rfl⟩
      · have hne : (x == n) = false := by simp [e]
        have HM : Hid (∀ (j : Nat) (y : Int), j < k + 1 → D[j]? = some y → y ≠ n) := by
          intro j y hj hy
          by_cases ej : j = k
          · rw [ej, hx] at hy
            cases hy
            exact e
          · exact HN.out j y (by omega) hy
        clear hx HN e
        go_wp2
        go_roundw
        case rel => exact ⟨k + 1, by omega, by go_num, HM, by first | rfl | trivial⟩
        case measure => simp [intOf]; omega
    · obtain rfl : k = D.length := by omega
      have HF : Hid (D.contains n = false) := by
        show D.contains n = false
        rw [← Bool.not_eq_true, List.contains_iff_mem]
        intro hm
        obtain ⟨j, hj⟩ := List.mem_iff_getElem?.1 hm
        exact HN.out j n (List.getElem?_eq_some_iff.1 hj).1 hj rfl
      go_wp2
      go_ret
      exact ⟨by rw [HF.out]; rfl, rfl⟩

/-- What the search keeps. -/
structure BadK (L : List Ce) (root : Int) (D : List Int) : Prop where
  head : D[0]? = some root
  nd : D.Nodup
  sub : ∀ b ∈ D, b = root ∨ ∃ c ∈ L, c.no = b ∧ c.ob ∈ D
theorem BadK.len {L : List Ce} {root : Int} {D : List Int} (h : BadK L root D) (hr : root ∈ L.map Ce.no) : D.length ≤ L.length := by
  have := h.nd.length_le_of_subset (l₂ := L.map Ce.no) (fun b hb => by
    rcases h.sub b hb with rfl | ⟨c, hc, rfl, _⟩
    · exact hr
    · exact List.mem_map_of_mem hc)
  simpa using this
theorem BadK.pos {L : List Ce} {root : Int} {D : List Int} (h : BadK L root D) : 1 ≤ D.length := by
  have := (List.getElem?_eq_some_iff.1 h.head).1
  omega
theorem BadK.more {L : List Ce} {root : Int} {D : List Int} (h : BadK L root D) {c : Ce} (hc : c ∈ L) (ho : c.ob ∈ D) (hn : c.no ∉ D) : BadK L root (D ++ [c.no]) := by
  refine ⟨?_, ?_, fun b hb => ?_⟩
  · rw [List.getElem?_append_left (by have := h.pos; omega)]
    exact h.head
  · rw [List.nodup_append]
    refine ⟨h.nd, by simp, fun a ha b hb e => ?_⟩
    rw [List.mem_singleton.1 hb] at e
    exact hn (e ▸ ha)
  · rcases List.mem_append.1 hb with hb | hb
    · rcases h.sub b hb with e | ⟨c', hc', e, ho'⟩
      · exact Or.inl e
      · exact Or.inr ⟨c', hc', e, List.mem_append_left _ ho'⟩
    · rw [List.mem_singleton.1 hb]
      exact Or.inr ⟨c, hc, rfl, List.mem_append_left _ ho⟩
theorem BadK.start (L : List Ce) (root : Int) : BadK L root [root] := ⟨rfl, by simp, fun b hb => Or.inl (List.mem_singleton.1 hb)⟩
/-- 1 or 0. -/
def bN : Value → Nat
  | .bool true => 1
  | _ => 0
theorem own_apart {w : World} {b1 b2 : Nat} {e1 e2 : TypeId} {s1 s2 : Nat} {v1 v2 : Value} {n1 n2 : Nat} {x1 x2 : List Value} (h1 : w.ownsRow b1 e1 s1 v1 n1 x1) (h2 : w.ownsRow b2 e2 s2 v2 n2 x2) (hne : e1 ≠ e2) : ∀ g, v1.ownBlock = some g → some g ≠ v2.ownBlock := by
  intro g hg e
  rcases h1.2 with ⟨h, _⟩ | ⟨g1, cap1, cur1, h, _, hh1, _⟩
  · rw [h] at hg; simp [Value.ownBlock] at hg
  · rcases h2.2 with ⟨k, _⟩ | ⟨g2, cap2, cur2, k, _, hh2, _⟩
    · rw [k] at e; simp [Value.ownBlock] at e
    · rw [h] at hg
      rw [k] at e
      simp [Value.ownBlock] at hg e
      subst hg e
      rw [hh1] at hh2
      simp at hh2
      exact hne hh2.2

theorem rrevoke_no (M c : Nat) (sv : Value) (L : List Ce) (last n s : Int) (w : World) (h : RefAt M w c sv L last) (hl : L.length ≤ 900) (hf : rfindI L n s = -1) :
    Calls Tryz.prog 77 #[.pointer (some ⟨c, 0, none⟩), .int .i64 n, .int .i64 s] w fun e w' => e = .returned (.tuple #[.int .i64 0, .int .i64 104]) ∧ w' = w := by
  have hfa := find_at M c sv L last n s w h (by omega)
  rw [hf] at hfa
  clear h hf
  go_enter Tryz.func77, Tryz.ntmps77
  go_wp2_with (go_at_call 72; refine hfa.mono ?_; rintro e w1 ⟨rfl, hw1⟩; rw [hw1]; clear hw1 w1)
  go_ret2
  exact ⟨rfl, rfl⟩

set_option maxRecDepth 100000 in
set_option maxHeartbeats 8000000 in
theorem rrevoke_yes (M c : Nat) (sv : Value) (L : List Ce) (last n s : Int) (k : Nat) (d : Ce) (w : World) (h : RefAt M w c sv L last) (hM : M ≤ w.heap.size) (hl : L.length ≤ 900) (hf : rfindI L n s = (k : Int)) (hd : L[k]? = some d) :
    Calls Tryz.prog 77 #[.pointer (some ⟨c, 0, none⟩), .int .i64 n, .int .i64 s] w fun e w' => ∃ bad, Bad L d.no bad ∧ e = .returned (.tuple #[.int .i64 ((bad.length : Int) - 1), .int .i64 0]) ∧ ∃ sv', RefAt M w' c sv' (rrevL L d.no bad) last ∧ Upd c w w' := by
  obtain ⟨i0, hi0, hzz⟩ := Option.map_eq_some_iff.1 intInfo
  simp only [Prod.mk.injEq] at hzz
  obtain ⟨hz0, hz1, hz2⟩ := hzz
  obtain ⟨j0, hj0, hyy⟩ := Option.map_eq_some_iff.1 ceInfo
  simp only [Prod.mk.injEq] at hyy
  obtain ⟨hy0, hy1, hy2⟩ := hyy
  have hfa := find_at M c sv L last n s w h (by omega)
  rw [hf] at hfa
  obtain ⟨g, cap, hsv, ⟨⟨d0, d1, d2, d3⟩, d4, d5, d6, d7⟩⟩ := h.at hd
  have c0 := h.c0
  have hkl : k < L.length := (List.getElem?_eq_some_iff.1 hd).1
  have hki : (k : Int) < (L.length : Int) := by omega
  have hlt := h.lt
  have hil : (L.length : Int) ≤ 900 := by omega
  have HRoot : Hid (d.no ∈ L.map Ce.no) := List.mem_map_of_mem (List.mem_of_getElem? hd)
  have HMem : Hid (d ∈ L) := List.mem_of_getElem? hd
  have HH : Hid _ := h
  obtain ⟨root, hroot⟩ : ∃ root, root = d.no := ⟨_, rfl⟩
  rw [← hroot] at HRoot d0 ⊢
  have HRO : Hid _ := hroot
  obtain ⟨W, hW⟩ : ∃ W, W = w.alloc (.cells #[.int .i64 root] 3) := ⟨_, rfl⟩
  have hbW : Below w.heap.size w W := by rw [hW]; exact below_alloc _ _
  have HB : Hid _ := hbW
  have HOW : Hid (W.ownsRow w.heap.size 3 1 (.slice (some ⟨w.heap.size, 0, none⟩) 1 1) 1 (ivs [root])) := by
    rw [hW]
    exact ⟨rfl, Or.inr ⟨_, 1, _, rfl, Nat.le_refl _, heap_alloc_new _ _, Nat.le_refl _, by unfold maxLen; omega, rfl, rfl⟩⟩
  clear h hf hd hbW hroot
  subst hsv
  go_enter Tryz.func77, Tryz.ntmps77
  go_wp2_with fail
  refine hfa.mono ?_
  rintro e w1 ⟨rfl, hw1⟩
  rw [hw1]
  clear hw1 w1 hfa
  go_wp2
  rw [← hW]
  clear hW d0 d1 d2 d3 d4 d5 d6 d7 c0
  go_loopw [9, 10, 11] (fun s9 s10 s11 wr => ∃ (D : List Int) (v : Value) (m : Bool), v = s9 ∧ s10 = .int .i64 ((D.length : Int) - 1) ∧ s11 = .bool m ∧ wr.ownsRow w.heap.size 3 1 v D.length (ivs D) ∧ Hid (BadK L root D) ∧ Hid (m = false → ∀ e ∈ L, e.ob ∈ D → e.no ∈ D) ∧ Below w.heap.size w wr) (fun _ s10 s11 _ => 2 * (1000 - (intOf s10).toNat) + bN s11)
  case atStart => exact ⟨[root], _, true, rfl, rfl, rfl, HOW.out, (show Hid _ from BadK.start L root), (show Hid _ from fun e => by cases e), HB.out⟩
  case round =>
    clear HB HOW
    obtain ⟨D, v, m, rfl, rfl, rfl, hown, HK, HCl, hb⟩ := hrel
    have hDl := HK.out.len HRoot.out
    have hDp := HK.out.pos
    cases m with
    | true =>
      have HO : Hid _ := hown
      have HB : Hid _ := hb
      clear hown hb HCl
      go_wp2
      go_loopw [9, 10, 11, 12] (fun s9 s10 s11 s12 wr => ∃ (i : Nat) (E : List Int) (v : Value) (m : Bool), i ≤ L.length ∧ v = s9 ∧ s10 = .int .i64 ((E.length : Int) - 1) ∧ s11 = .bool m ∧ s12 = .int .i64 i ∧ wr.ownsRow w.heap.size 3 1 v E.length (ivs E) ∧ Hid (BadK L root E) ∧ Hid (m = false → ∀ (j : Nat) (e : Ce), j < i → L[j]? = some e → e.ob ∈ E → e.no ∈ E) ∧ Hid (D.length ≤ E.length ∧ (m = true → D.length < E.length)) ∧ Below w.heap.size w wr) (fun _ _ _ s12 _ => L.length - (intOf s12).toNat)
      case atStart => exact ⟨0, D, v, false, by omega, rfl, rfl, rfl, rfl, HO.out, HK, (show Hid _ from fun _ j e hj => absurd hj (Nat.not_lt_zero _)), (show Hid _ from ⟨Nat.le_refl _, fun e => by cases e⟩), HB.out⟩
      case round =>
        clear HO HB HK
        obtain ⟨i, E, v, m, hi, rfl, rfl, rfl, rfl, hown, HK, HCl, HGr, hb⟩ := hrel
        have hEl := HK.out.len HRoot.out
        have hEp := HK.out.pos
        have hRr := HH.out.below hb
        have c0 := hRr.c0
        have HO : Hid _ := hown
        have HB : Hid _ := hb
        by_cases hlt2 : i < L.length
        · obtain ⟨e, he⟩ : ∃ e, L[i]? = some e := ⟨L[i], List.getElem?_eq_getElem hlt2⟩
          obtain ⟨g1, cap1, esv, ⟨⟨e0, e1, e2, e3⟩, e4, e5, e6, e7⟩⟩ := hRr.at he
          simp only [Value.slice.injEq, Option.some.injEq, Addr.mk.injEq] at esv
          obtain ⟨⟨rfl, _⟩, _, rfl⟩ := esv
          have hii : (i : Int) < (L.length : Int) := by omega
          obtain ⟨a, ca, rfl, hrow⟩ := own_irow (D := E) hown
          have HOA : Hid (∀ o, (wr.alloc o).ownsRow w.heap.size 3 1 (.slice a E.length ca) E.length (ivs E)) := fun o => hown.alloc o
          have h1 := rin_at E a ca e.ob wr hrow (by omega)
          have h2 := rin_at E a ca e.no wr hrow (by omega)
          have HN1 : Hid ((E.contains e.ob = true → E.contains e.no = true) → (m = false → ∀ (j : Nat) (f : Ce), j < i + 1 → L[j]? = some f → f.ob ∈ E → f.no ∈ E)) := by
            intro hh hm j f hj hf ho
            by_cases ej : j = i
            · rw [ej, he] at hf
              cases hf
              exact List.contains_iff_mem.1 (hh (List.contains_iff_mem.2 ho))
            · exact HCl.out hm j f (by omega) hf ho
          have HMo : Hid (E.contains e.ob = true → E.contains e.no = false → BadK L root (E ++ [e.no])) := by
            intro t1 t2
            refine HK.out.more (List.mem_of_getElem? he) (List.contains_iff_mem.1 t1) ?_
            intro hm
            rw [List.contains_iff_mem.2 hm] at t2
            cases t2
          clear he hRr hown hrow hb HCl
          generalize E.contains e.ob = t1 at *
          generalize E.contains e.no = t2 at *
          obtain ⟨eno, eob, eenv, eslot, ex⟩ := e
          dsimp only at *
          cases t1 with
          | false =>
            have HN2 : Hid _ := HN1.out (fun e => by cases e)
            clear HN1 HMo h2
            go_wp2_with fail
            refine h1.mono ?_
            rintro e w1 ⟨rfl, hw1⟩
            rw [hw1]
            clear hw1 w1 h1
            go_wp2
            go_roundw
            case rel => exact ⟨i + 1, E, _, m, by omega, rfl, rfl, rfl, by go_num, HO.out, HK, HN2, HGr, HB.out⟩
            case measure => simp [intOf]; omega
          | true =>
            cases t2 with
            | true =>
              have HN2 : Hid _ := HN1.out (fun _ => rfl)
              clear HN1 HMo
              go_wp2_with fail
              refine h1.mono ?_
              rintro e w1 ⟨rfl, hw1⟩
              rw [hw1]
              clear hw1 w1 h1
              go_wp2_with fail
              refine h2.mono ?_
              rintro e w1 ⟨rfl, hw1⟩
              rw [hw1]
              clear hw1 w1 h2
              go_wp2
              go_roundw
              case rel => exact ⟨i + 1, E, _, m, by omega, rfl, rfl, rfl, by go_num, HO.out, HK, HN2, HGr, HB.out⟩
              case measure => simp [intOf]; omega
            | false =>
              have HK2 : Hid _ := HMo.out rfl rfl
              clear HN1 HMo
              have hws := HB.out.size
              go_wp2_with fail
              refine h1.mono ?_
              rintro e w1 ⟨rfl, hw1⟩
              rw [hw1]
              clear hw1 w1 h1
              go_wp2_with fail
              refine h2.mono ?_
              rintro e w1 ⟨rfl, hw1⟩
              rw [hw1]
              clear hw1 w1 h2
              go_wp2_with (at_builtin; refine wpList_append_lies _ rfl _ _ _ rfl w.heap.size 3 i0 _ 1 8 Tryz.underlying86 hi0 hz0 hz1 hz2 rfl (by omega) (.slice a E.length ca) E.length (ivs E) rfl (HOA.out _) ⟨wr.heap.size, 0, none⟩ 1 1 [.int .i64 eno] rfl rfl (World.news_of_block (cs := #[.int .i64 eno]) (t := 3) (fr := (0, 0)) (heap_alloc_new _ _)) (by simp [Value.oneCell']) (by omega) (by unfold maxLen; omega) (by omega) (by simp; omega) _ rfl ?_; intro gg cap w2 hown2 hgrow hat hlt2)
              go_roundw
              case rel =>
                refine ⟨i + 1, E ++ [eno], _, true, by omega, rfl, ?_, rfl, by go_num, ?_, HK2, (show Hid _ from fun e => by cases e), (show Hid _ from ⟨?_, fun _ => ?_⟩), (HB.out.alloc hws _).trans (below_grown hgrow (by simp; omega) (ownsRow_low HO.out))⟩
                · have e9 : ((E ++ [eno]).length : Int) - 1 = E.length := by simp
                  rw [e9]
                · rw [List.length_append]
                  simpa [ivs] using hown2
                · have := HGr.out.1
                  rw [List.length_append]
                  omega
                · have := HGr.out.1
                  rw [List.length_append]
                  simp
                  omega
              case measure => simp [intOf]; omega
        · obtain rfl : i = L.length := by omega
          clear hRr hown hb
          have HCl2 : Hid (m = false → ∀ e ∈ L, e.ob ∈ E → e.no ∈ E) := by
            intro hm e he ho
            obtain ⟨j, hj⟩ := List.mem_iff_getElem?.1 he
            exact HCl.out hm j e (List.getElem?_eq_some_iff.1 hj).1 hj ho
          have hgr1 := HGr.out.1
          have hgr2 := HGr.out.2
          clear HCl
          go_wp2
          go_roundw
          case rel => exact ⟨E, _, m, rfl, rfl, rfl, HO.out, HK, HCl2, HB.out⟩
          case measure =>
            cases m with
            | true =>
              have := hgr2 rfl
              simp [intOf, bN]
              omega
            | false =>
              simp [intOf, bN]
              omega
    | false =>
      have HBad : Hid (Bad L root D) := by
        have hk := HK.out
        exact ⟨List.mem_of_getElem? hk.head, hk.nd, HCl.out rfl, hk.sub⟩
      have HHd : Hid (D[0]? = some root) := HK.out.head
      obtain ⟨a, ca, rfl, _⟩ := own_irow (D := D) hown
      have HO : Hid _ := hown
      have HB : Hid _ := hb
      clear hown hb HK HCl
      go_wp2
      go_loopw [13, 14] (fun s13 s14 wr => ∃ (i : Nat) (v : Value), i ≤ L.length ∧ v = s13 ∧ s14 = .int .i64 i ∧ wr.ownsRow w.heap.size 99 8 v (rrevL (L.take i) root D).length (ccells (rrevL (L.take i) root D)) ∧ wr.ownsRow w.heap.size 3 1 (.slice a D.length ca) D.length (ivs D) ∧ Below w.heap.size w wr) (fun _ s14 _ => L.length - (intOf s14).toNat)
      case atStart => exact ⟨0, _, by omega, rfl, rfl, World.ownsRow_nil _ _ _ _, HO.out, HB.out⟩
      case round =>
        clear HO HB
        obtain ⟨i, v, hi, rfl, rfl, hown, hbad, hb⟩ := hrel
        have hRr := HH.out.below hb
        have c0 := hRr.c0
        by_cases hlt2 : i < L.length
        · obtain ⟨e, he⟩ : ∃ e, L[i]? = some e := ⟨L[i], List.getElem?_eq_getElem hlt2⟩
          obtain ⟨g1, cap1, esv, ⟨⟨e0, e1, e2, e3⟩, e4, e5, e6, e7⟩⟩ := hRr.at he
          simp only [Value.slice.injEq, Option.some.injEq, Addr.mk.injEq] at esv
          obtain ⟨⟨rfl, _⟩, _, rfl⟩ := esv
          have hii : (i : Int) < (L.length : Int) := by omega
          obtain ⟨a', ca', ea, hrow⟩ := own_irow (D := D) hbad
          simp only [Value.slice.injEq] at ea
          obtain ⟨rfl, _, rfl⟩ := ea
          obtain ⟨gb, ob, rfl, hb0⟩ := hrow 0 root HHd.out
          rw [Nat.add_zero] at hb0
          have h2 := fun q => rin_at D _ ca e.no (wr.drewN q) (hrow.below (below_drewN (Below.refl _ wr) q)) (by omega)
          have HY : Hid ((e.no == root || !D.contains e.no) = true → rrevL (L.take (i + 1)) root D = rrevL (L.take i) root D ++ [e]) := by
            intro hp
            obtain ⟨hi', rfl⟩ := List.getElem?_eq_some_iff.1 he
            unfold rrevL
            rw [show L.take (i + 1) = L.take i ++ [L[i]] by simp, List.filter_append, List.filter_cons, if_pos hp]
            rfl
          have HNo : Hid ((e.no == root || !D.contains e.no) = false → rrevL (L.take (i + 1)) root D = rrevL (L.take i) root D) := by
            intro hp
            obtain ⟨hi', rfl⟩ := List.getElem?_eq_some_iff.1 he
            unfold rrevL
            rw [show L.take (i + 1) = L.take i ++ [L[i]] by simp, List.filter_append, List.filter_cons, if_neg (by rw [hp]; simp)]
            simp
          have hlen : (rrevL (L.take i) root D).length ≤ i := by
            unfold rrevL
            exact Nat.le_trans (List.length_filter_le _ _) (by rw [List.length_take]; omega)
          have hDl2 : (0 : Int) < (D.length : Int) := by omega
          have HOW : Hid _ := hown
          have HBD : Hid _ := hbad
          have HBB : Hid _ := hb
          have HRr : Hid _ := hRr
          clear he hRr hown hrow hb hbad
          generalize D.contains e.no = t2 at *
          generalize rrevL (L.take i) root D = Q at *
          obtain ⟨eno, eob, eenv, eslot, ⟨x0, x1, x2, x3⟩⟩ := e
          dsimp only at *
          by_cases hro : eno = root
          · have hoo : (eno == root) = true := by simp [hro]
            clear hro
            have HQ : Hid _ := HY.out (by rw [hoo]; rfl)
            go_wp2_with fail
            go_quiet (fail)
            obtain ⟨V, hV⟩ : ∃ V, V = wr.drewN nq := ⟨_, rfl⟩
            rw [← hV]
            have hbV : Below wr.heap.size wr V := by rw [hV]; exact below_drewN (Below.refl _ wr) nq
            have HOV : Hid (V.ownsRow w.heap.size 99 8 v Q.length (ccells Q)) := ownsRow_below HOW.out hbV
            have HBV2 : Hid (V.ownsRow w.heap.size 3 1 (.slice (some ⟨gb, ob, none⟩) D.length ca) D.length (ivs D)) := ownsRow_below HBD.out hbV
            have HBV : Hid (Below w.heap.size w V) := HBB.out.trans (hbV.mono HBB.out.size)
            have HOA : Hid (∀ o, (V.alloc o).ownsRow w.heap.size 99 8 v Q.length (ccells Q)) := fun o => World.ownsRow.alloc HOV.out o
            have hVs := HBV.out.size
            have p0 := (HRr.out.below hbV).c0
            have k0 := (hbV.cell (cell_lt e0)).trans e0
            have k1 := (hbV.cell (cell_lt e1)).trans e1
            have k2 := (hbV.cell (cell_lt e2)).trans e2
            have k3 := (hbV.cell (cell_lt e3)).trans e3
            have k4 := (hbV.cell (cell_lt e4)).trans e4
            have k5 := (hbV.cell (cell_lt e5)).trans e5
            have k6 := (hbV.cell (cell_lt e6)).trans e6
            have k7 := (hbV.cell (cell_lt e7)).trans e7
            clear hV hbV c0 e0 e1 e2 e3 e4 e5 e6 e7 hb0 HNo HY
            go_wp2_with (at_builtin; refine wpList_append_lies _ rfl _ _ _ rfl w.heap.size 99 j0 _ 8 64 Tryz.underlying63 hj0 hy0 hy1 hy2 rfl (by omega) v Q.length (ccells Q) rfl (HOA.out _) ⟨V.heap.size, 0, none⟩ 1 1 (ceRow ⟨eno, eob, eenv, eslot, ⟨x0, x1, x2, x3⟩⟩) rfl rfl (World.news_of_block (cs := (ceRow ⟨eno, eob, eenv, eslot, ⟨x0, x1, x2, x3⟩⟩).toArray) (t := 99) (fr := (0, 0)) (heap_alloc_new _ _)) (by simp [Value.oneCell']) (by omega) (by unfold maxLen; omega) (by omega) (by simp; omega) _ rfl ?_; intro gg capx w2 hown2 hgrow hat hlt2)
            go_roundw
            case rel =>
              refine ⟨i + 1, _, by omega, rfl, by go_num, ?_, ?_, (HBV.out.alloc hVs _).trans (below_grown hgrow (by simp; omega) (ownsRow_low HOV.out))⟩
              · rw [HQ.out, List.length_append, ccells_app]
                exact hown2
              · exact ownsRow_at (World.ownsRow.alloc HBV2.out _) (fun g hg => hgrow.block g (by have := (HBV2.out.lt g hg).2; simp; omega) (own_apart HBV2.out HOV.out (by decide) g hg))
            case measure => simp [intOf]; omega
          · have hoo : (eno == root) = false := by simp [hro]
            clear hro
            cases t2 with
            | false =>
              have HQ : Hid _ := HY.out (by rw [hoo]; rfl)
              go_wp2_with fail
              go_quiet (first | (go_at_call 110; refine Calls.quiet_of_same (h2 _)))
              obtain ⟨V, hV⟩ : ∃ V, V = wr.drewN nq := ⟨_, rfl⟩
              rw [← hV]
              have hbV : Below wr.heap.size wr V := by rw [hV]; exact below_drewN (Below.refl _ wr) nq
              have HOV : Hid (V.ownsRow w.heap.size 99 8 v Q.length (ccells Q)) := ownsRow_below HOW.out hbV
              have HBV2 : Hid (V.ownsRow w.heap.size 3 1 (.slice (some ⟨gb, ob, none⟩) D.length ca) D.length (ivs D)) := ownsRow_below HBD.out hbV
              have HBV : Hid (Below w.heap.size w V) := HBB.out.trans (hbV.mono HBB.out.size)
              have HOA : Hid (∀ o, (V.alloc o).ownsRow w.heap.size 99 8 v Q.length (ccells Q)) := fun o => World.ownsRow.alloc HOV.out o
              have hVs := HBV.out.size
              have p0 := (HRr.out.below hbV).c0
              have k0 := (hbV.cell (cell_lt e0)).trans e0
              have k1 := (hbV.cell (cell_lt e1)).trans e1
              have k2 := (hbV.cell (cell_lt e2)).trans e2
              have k3 := (hbV.cell (cell_lt e3)).trans e3
              have k4 := (hbV.cell (cell_lt e4)).trans e4
              have k5 := (hbV.cell (cell_lt e5)).trans e5
              have k6 := (hbV.cell (cell_lt e6)).trans e6
              have k7 := (hbV.cell (cell_lt e7)).trans e7
              clear hV hbV c0 e0 e1 e2 e3 e4 e5 e6 e7 hb0 HNo HY
              go_wp2_with (at_builtin; refine wpList_append_lies _ rfl _ _ _ rfl w.heap.size 99 j0 _ 8 64 Tryz.underlying63 hj0 hy0 hy1 hy2 rfl (by omega) v Q.length (ccells Q) rfl (HOA.out _) ⟨V.heap.size, 0, none⟩ 1 1 (ceRow ⟨eno, eob, eenv, eslot, ⟨x0, x1, x2, x3⟩⟩) rfl rfl (World.news_of_block (cs := (ceRow ⟨eno, eob, eenv, eslot, ⟨x0, x1, x2, x3⟩⟩).toArray) (t := 99) (fr := (0, 0)) (heap_alloc_new _ _)) (by simp [Value.oneCell']) (by omega) (by unfold maxLen; omega) (by omega) (by simp; omega) _ rfl ?_; intro gg capx w2 hown2 hgrow hat hlt2)
              go_roundw
              case rel =>
                refine ⟨i + 1, _, by omega, rfl, by go_num, ?_, ?_, (HBV.out.alloc hVs _).trans (below_grown hgrow (by simp; omega) (ownsRow_low HOV.out))⟩
                · rw [HQ.out, List.length_append, ccells_app]
                  exact hown2
                · exact ownsRow_at (World.ownsRow.alloc HBV2.out _) (fun g hg => hgrow.block g (by have := (HBV2.out.lt g hg).2; simp; omega) (own_apart HBV2.out HOV.out (by decide) g hg))
              case measure => simp [intOf]; omega

            | true =>
              have HQ : Hid _ := HNo.out (by rw [hoo]; rfl)
              go_wp2_with fail
              go_quiet (first | (go_at_call 110; refine Calls.quiet_of_same (h2 _)))
              go_wp2
              go_roundw
              case rel =>
                have hbV : Below wr.heap.size wr (wr.drewN nq) := below_drewN (Below.refl _ wr) nq
                refine ⟨i + 1, _, by omega, rfl, by go_num, ?_, ownsRow_below HBD.out hbV, HBB.out.trans (hbV.mono HBB.out.size)⟩
                rw [HQ.out]
                exact ownsRow_below HOW.out hbV
              case measure => simp [intOf]; omega
        · obtain rfl : i = L.length := by omega
          have hfz : wr.frozen? ⟨c, 0, none⟩ = false := frozen_of_heap hRr.head
          obtain ⟨av, cv, rfl⟩ : ∃ av cv, v = .slice av (rrevL (L.take L.length) root D).length cv := by
            rcases hown.2 with ⟨e2, e3⟩ | ⟨g', cap', cur, e2, _⟩
            · exact ⟨none, 0, by rw [e2, e3]⟩
            · exact ⟨_, _, e2⟩
          have HRr : Hid _ := hRr
          have HOW : Hid _ := hown
          have HBB : Hid _ := hb
          have hcr := hRr.lt
          clear hRr hown hb hbad
          go_wp2
          go_ret2
          have hfull : rrevL (L.take L.length) root D = rrevL L root D := by rw [List.take_length]
          have hQ := HOW.out
          rw [hfull] at hQ
          refine ⟨D, HBad.out, rfl, _, ⟨head0 HRr.out.head _, ?_, ?_⟩, (Upd.of_below HBB.out).trans (Upd.setCell _ _ _ _)⟩
          · exact ownsRow_mono (ownsRow_at hQ (fun g hg => Below.heap_setCell _ _ _ _ (by have := ownsRow_low hQ g hg
                                                                                          show g ≠ c
                                                                                          omega))) hM
          · intro e
            exfalso
            have hm : d ∈ rrevL L root D := by
              unfold rrevL
              rw [List.mem_filter]
              exact ⟨HMem.out, by simp [HRO.out]⟩
            rw [e] at hm
            cases hm
end Ca
end Go.Proofs.YtfnafjddajgahaaGreat
