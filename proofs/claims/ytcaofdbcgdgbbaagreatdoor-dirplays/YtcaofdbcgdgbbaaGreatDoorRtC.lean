/- The document's answer on directories (janusref16), over a file system: Find; bytes that were made of a text. -/
import Derived.Test.YtcaofdbcgdgbbaaGreatDoorRtB
import Derived.Test.YtcaofdbcgdgbbaaGreatDoorLwK
namespace Go.Proofs.YtcaofdbcgdgbbaaGreatDoor
open Go.RowKit Go.Lib
set_option linter.unusedVariables false

section
variable {w w' : World} {bx gx m : Nat} {F : FS}
theorem find_hit {l : List Ent} {s : List UInt8} {k : Nat} {e : Ent} (he : l[k]? = some e) (hq : e.name = s) (hlo : ∀ j x, j < k → l[j]? = some x → x.name ≠ s) : findE l s = (e.to : Int) := by
  have hp := place_at_hit he hq hlo
  have hk := (List.getElem?_eq_some_iff.1 he).1
  unfold findE
  rw [hp, if_pos hk, List.getD_eq_getElem?_getD, he]
  rfl
set_option maxHeartbeats 2000000 in
set_option maxRecDepth 100000 in
theorem rfind_at (h : Es w bx gx F m) (hA : AllD F) (hm : m ≤ 800000000000) (hF : FInv F) (i : Int) (s : List UInt8) :
    Calls Tryz.prog 25 #[ptr bx, .int .i64 i, tx s] w fun e w' => e = .returned (.int .i64 (fdR F i s)) ∧ Es w' bx gx F (m + 4000) ∧ BG bx gx w w' := by
  have hL := rlist_at h hA hm hF i
  have h21 := dir_len hA i
  have HR : Hid (fdR F i s = findE (dirL F i) s) := rfl
  clear h
  generalize dirL F i = l at *
  go_enter Tryz.func25, Tryz.ntmps25
  go_wp2_with fail
  refine hL.mono ?_
  rintro e w1 ⟨v, u, rfl, hTs, hNs, hf, hbg⟩
  obtain ⟨a, cap, rfl, -⟩ := hTs.form
  obtain ⟨a', cap', rfl, -⟩ := hNs.form
  have HT : Hid (Ts w1 w.heap.size (.slice a (l.map Ent.name).length cap) (l.map Ent.name)) := hTs
  have HN : Hid (Ns w1 w.heap.size (.slice a' (l.map Ent.to).length cap') (l.map Ent.to)) := hNs
  have HQ : Hid (Es w1 bx gx F (m + 4000) ∧ BG bx gx w w1) := ⟨hf, hbg⟩
  have hl1 : (l.map Ent.name).length = l.length := List.length_map _
  have hl2 : (l.map Ent.to).length = l.length := List.length_map _
  rw [hl1] at HT ⊢
  rw [hl2] at HN ⊢
  clear hL hTs hNs hf hbg hl1 hl2
  go_wp2
  go_loopw [9] (fun s9 wr => ∃ (k : Nat), s9 = .int .i64 k ∧ k ≤ l.length ∧ Hid (∀ j x, j < k → l[j]? = some x → x.name ≠ s) ∧ wr = w1) (fun s9 _ => l.length - (RowKit.intOf s9).toNat)
  case atStart => exact ⟨0, rfl, by omega, fun j x hj => by omega, rfl⟩
  case round =>
    obtain ⟨k, rfl, hk, HL, rfl⟩ := hrel
    by_cases hlt : k < l.length
    · obtain ⟨e, he⟩ : ∃ e, l[k]? = some e := ⟨l[k], List.getElem?_eq_getElem hlt⟩
      obtain ⟨g, rfl, c0, -⟩ := HT.out.at (show (l.map Ent.name)[k]? = some e.name by rw [List.getElem?_map, he]; rfl)
      obtain ⟨g', rfl, c1, -⟩ := HN.out.at (show (l.map Ent.to)[k]? = some e.to by rw [List.getElem?_map, he]; rfl)
      have hint : (k : Int) < (l.length : Int) := by omega
      have HK : Hid (l[k]? = some e) := he
      clear he
      by_cases hq : e.name = s
      · have HX : Hid (findE l s = (e.to : Int)) := find_hit HK.out hq HL.out
        have hs := text_same s
        rw [hq] at c0
        clear hq
        go_wp2
        go_ret
        exact ⟨by rw [HR.out, HX.out]; rfl, HQ.out⟩
      · have hqb : (e.name == s) = false := by simpa using hq
        have HL2 : Hid (∀ j x, j < k + 1 → l[j]? = some x → x.name ≠ s) := fun j x hj hx => by
          rcases Nat.lt_or_ge j k with q | q
          · exact HL.out j x q hx
          · have e2 : j = k := by omega
            subst e2
            rw [HK.out] at hx
            rw [← Option.some.inj hx]
            exact hq
        clear hq
        go_wp2
        go_roundw
        case rel => exact ⟨k + 1, by go_num, by omega, HL2, by first | rfl | trivial⟩
        case measure => simp [RowKit.intOf]; omega
    · have hnl : ¬ (k : Int) < (l.length : Int) := by omega
      have HX : Hid (findE l s = -1) := find_no_iff.2 (fun q => by
        obtain ⟨p1, p2⟩ := place_hit q
        exact HL.out _ _ (by omega) (List.getElem?_eq_getElem q) p1)
      go_wp2
      go_ret
      exact ⟨by rw [HR.out, HX.out]; rfl, HQ.out⟩
end
end Go.Proofs.YtcaofdbcgdgbbaaGreatDoor
