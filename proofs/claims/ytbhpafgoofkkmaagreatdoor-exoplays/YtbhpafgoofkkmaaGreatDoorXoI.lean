import Derived.Test.YtbhpafgoofkkmaaGreatDoorXoH
set_option linter.all false
namespace Go.Proofs.YtbhpafgoofkkmaaGreatDoor
open Go.RowKit
abbrev v0 (r : Rqt) : Int := r.vals.getD 0 0
abbrev v1 (r : Rqt) : Int := r.vals.getD 1 0
def rawO (S : XS) (e : Int) (r : Rqt) (a' : Option Addr) (c' : Nat) : XS × List Int × Int := match r.c with
 | 0 => ({ S with vs := Ex.allocV S.T S.n e S.vs, T := Ex.allocT S.T S.n e, F := S.F }, ansW (Ex.allocR S.T S.n e) [Ex.allocA S.T S.n e], Ex.allocR S.T S.n e)
 | 1 => if En.isB S.E r.b = true then ({ S with vs := S.vs, T := Ca.giveT S.T e r.a r.b r.d, F := S.F }, ansW (Ca.giveR S.T e r.a r.b r.d) [Ca.giveA S.T e r.a r.b r.d], Ca.giveR S.T e r.a r.b r.d) else (S, [], 101)
 | 2 => ({ S with vs := S.vs, T := Ca.dropT S.T e r.a, F := Ex.tidyF (Ca.dropT S.T e r.a) S.F }, [], Ca.dropR S.T e r.a)
 | 3 => ({ S with vs := S.vs, T := Ex.revT S.T e r.a, F := Ex.tidyF (Ex.revT S.T e r.a) S.F }, [], Ex.revR S.T e r.a)
 | 4 => if r.d ≤ 1 then ({ S with vs := S.vs, T := S.T, F := Ex.kmapF S.T S.F e r.a r.b (r.d == 1) }, [], Ex.kmapR S.T e r.a r.b (r.d == 1)) else (S, [], 101)
 | 5 => ({ S with vs := S.vs, T := S.T, F := Ex.kunmapF S.F e r.a }, [], Ex.kunmapR S.F e r.a)
 | 6 => (S, ansW (Ex.kloadR S.n S.vs S.F e (v0 r)).2 [(Ex.kloadR S.n S.vs S.F e (v0 r)).1], (Ex.kloadR S.n S.vs S.F e (v0 r)).2)
 | 7 => ({ S with vs := Ex.kstoreV S.n S.vs S.F e (v0 r) (v1 r), T := S.T, F := S.F }, [], Ex.kstoreR S.n S.F e (v0 r))
 | 8 => ({ S with vs := Ex.kcopyV S.T S.n S.vs e r.a r.b, T := S.T, F := S.F }, [], Ex.kcopyR S.T S.n e r.a r.b)
 | 9 => (S, ansW (Ex.kreadR S.T S.n S.vs e r.a r.b).2 [(Ex.kreadR S.T S.n S.vs e r.a r.b).1], (Ex.kreadR S.T S.n S.vs e r.a r.b).2)
 | 10 => ({ S with vs := Ex.kwriteV S.T S.n S.vs e r.a r.b (v0 r), T := S.T, F := S.F }, [], Ex.kwriteR S.T S.n e r.a r.b)
 | 11 => if En.isB S.E r.a = true then ({ S with Q := Ip.sendQ S.Q e r.a a' c' r.vals }, [], Ip.sendR S.Q e r.a r.vals.length) else (S, [], 101)
 | 12 => match Ip.qat S.Q e with
  | [] => (S, [], 106)
  | m :: _ => ({ S with Q := Ip.recvQ S.Q e }, m.fr :: m.ws, 0)
 | 13 => ({ S with m := S.m, ds := S.ds, l := S.l, C := Xd.xallocT S.C S.d e r.a r.b }, ansW (Xd.xallocR S.C S.d e r.a r.b) [Xd.xallocA S.C S.d e r.a r.b], Xd.xallocR S.C S.d e r.a r.b)
 | 14 => if En.isB S.E r.b = true then ({ S with m := S.m, ds := S.ds, l := S.l, C := Ca.giveT S.C e r.a r.b r.d }, ansW (Ca.giveR S.C e r.a r.b r.d) [Ca.giveA S.C e r.a r.b r.d], Ca.giveR S.C e r.a r.b r.d) else (S, [], 101)
 | 15 => ({ S with m := S.m, ds := S.ds, l := S.l, C := Xd.revT S.C e r.a }, [], Xd.revR S.C e r.a)
 | 16 => ({ S with m := S.m + 1, ds := S.ds, l := Xd.getLl S.C S.l S.ds e r.a r.b, C := S.C }, Xd.getWw S.C S.l S.ds e r.a r.b, Xd.getRr S.C e r.a r.b)
 | _ => ({ S with m := S.m, ds := S.ds, l := Xd.putLl S.C S.l e r.a r.b r.vals, C := S.C }, [], Xd.putRr S.C e r.a r.b r.vals.length)
def rawS (S : XS) (e : Int) (ws : List Int) (a' : Option Addr) (c' : Nat) : XS × List Int × Int := if En.isB S.E e = true then (match reqOf ws with
  | none => (S, [], 101)
  | some r => rawO S e r a' c') else (S, [], 101)
def talks (S : XS) (e : Int) (ws : List Int) : Prop := ∃ r, reqOf ws = some r ∧ (r.c = 11 ∨ (r.c = 12 ∧ Ip.qat S.Q e ≠ []))
structure XI (S : XS) : Prop where
 tidy : ∀ e, e < 12 → ∀ p x, S.F e p = some x → Ex.holdB S.T e x = true
 msg : ∀ j, j < 12 → ∀ m ∈ S.Q j, 0 ≤ m.fr ∧ m.fr < 12 ∧ m.ws.length ≤ 8 ∧ U64s m.ws
theorem XI.at {S : XS} (h : XI S) {e : Int} {m : Ip.Mg} (hm : m ∈ Ip.qat S.Q e) : 0 ≤ m.fr ∧ m.fr < 12 ∧ m.ws.length ≤ 8 ∧ U64s m.ws := by
 unfold Ip.qat at hm
 split at hm
 ·rename_i hi
  obtain ⟨k, rfl, hk⟩ := Ip.isE_nat hi
  exact h.msg k hk m hm
 ·cases hm
structure RqOk (r : Rqt) : Prop where
 c : r.c < 18
 a : 0 ≤ r.a ∧ r.a < 2147483648
 b : 0 ≤ r.b ∧ r.b < 2147483648
 d : 0 ≤ r.d ∧ r.d < 2147483648
 lo : fL r.c ≤ r.vals.length
 hi : r.vals.length ≤ fM r.c
 u : U64s r.vals
theorem sm_ok {rest : List Int} {s i : Nat} (hu : U64s rest) (ha : (rest.take s).all (fun y => decide (y < 2147483648)) = true) : 0 ≤ sm rest s i ∧ sm rest s i < 2147483648 := by
 unfold sm
 split
 ·rename_i hi
  rw [List.all_eq_true] at ha
  cases hx : rest[i]? with
  | none => simp [List.getD, hx]
  | some x =>
   have h1 := ha x (List.mem_of_getElem? (by rw [List.getElem?_take_of_lt hi]; exact hx))
   have h2 := hu x (List.mem_of_getElem? hx)
   simp only [decide_eq_true_eq] at h1
   simp only [List.getD, hx, Option.getD_some]
   exact ⟨h2.1, h1⟩
 ·omega
theorem req_ok {ws : List Int} {r : Rqt} (h : reqOf ws = some r) (hu : U64s ws) : RqOk r := by
 cases ws with
 | nil => cases h
 | cons x rest =>
  have hx := hu x (List.mem_cons_self ..)
  have hr : U64s rest := fun y hy => hu y (List.mem_cons_of_mem _ hy)
  unfold reqOf at h
  split at h
  ·cases h
  ·rename_i y rest' heq
   injection heq with h1 h2
   subst h1
   subst h2
   split at h
   ·rename_i h18
    split at h
    ·cases h
    ·rename_i hlen
     split at h
     ·rename_i hall
      injection h with h
      subst h
      refine ⟨by show x.toNat < 18; omega, sm_ok hr hall, sm_ok hr hall, sm_ok hr hall, ?_, ?_, fun y hy => hr y (List.mem_of_mem_drop hy)⟩
      ·show fL x.toNat ≤ (rest.drop _).length
       rw [List.length_drop]
       omega
      ·show (rest.drop _).length ≤ fM x.toNat
       rw [List.length_drop]
       omega
     ·cases h
   ·cases h
def RawDid (Kb : Nat) (L : XL) (i : Prop) (w : World) (f : Option Addr → Nat → XS × List Int × Int) (x : Ending) (w' : World) : Prop :=
 ∃ a' c', Ip.NewA w.heap.size a' ∧ Did Kb L i w (f a' c').1 (f a' c').2.1 (f a' c').2.2 x w'
theorem RawDid.of {Kb : Nat} {L : XL} {i j : Prop} {w : World} {f : Option Addr → Nat → XS × List Int × Int} {S' : XS} {ans : List Int} {err : Int} {x : Ending} {w' : World} (hd : Did Kb L i w S' ans err x w') (hf : f none 0 = (S', ans, err)) (hi : i → j) : RawDid Kb L j w f x w' := by
 obtain ⟨a, n, c, h1, h2, h3, h4⟩ := hd
 refine ⟨none, 0, fun g off e => (by cases e), a, n, c, ?_, ?_, ?_, h4.mono hi⟩
 ·rw [hf]; exact h1
 ·rw [hf]; exact h2
 ·rw [hf]; exact h3
section
variable {w : World} {Kb : Nat} {L : XL} {S : XS}
theorem rawx_dead (h : ExoAt w Kb L S) (e : Int) (v : Value) (hl : En.isB S.E e = false) :
  Calls Tryz.prog 9 #[ptr Kb, .int .i64 e, v] w fun x w' => Did Kb L False w S [] 101 x w' := by
 have k1 := h.k1
 have hI := En.is_at L.eb L.eg S.E S.V e w h.env
 rw [hl] at hI
 go_enter Tryz.func9, Tryz.ntmps9
 go_wp2_with (first | (go_at_call 24; refine hI.mono ?_; rintro x w1 ⟨rfl, hw⟩; rw [hw]; clear hw w1) | (go_at_call 25; refine (answer_nil _ _).mono ?_; rintro x w3 ⟨rfl, hw⟩; rw [hw]; clear hw w3))
 go_ret2
 exact ⟨_, _, _, rfl, URow.nil _ _, h, XTch.refl _ _ _⟩
theorem rawx_none (h : ExoAt w Kb L S) (hF : Frm w) (e : Int) (v : Value) (ws : List Int) (hv : RdV w v ws) (hu : U64s ws) (hl : En.isB S.E e = true) (hr : reqOf ws = none) :
  Calls Tryz.prog 9 #[ptr Kb, .int .i64 e, v] w fun x w' => Did Kb L False w S [] 101 x w' := by
 have k1 := h.k1
 have hI := En.is_at L.eb L.eg S.E S.V e w h.env
 rw [hl] at hI
 have hR := read_at e v ws w hv hu hF
 have HNone : Hid (reqOf ws = none) := hr
 clear hv hu hF hr hl
 dsimp only [zreqC] at hR
 go_enter Tryz.func9, Tryz.ntmps9
 go_wp2_with (first | (go_at_call 24; refine hI.mono ?_; rintro x w1 ⟨rfl, hw⟩; rw [hw]; clear hw w1) | fail)
 refine hR.mono ?_
 rintro x w1 ⟨hb1, h2⟩
 rcases h2 with ⟨_, rfl⟩ | ⟨r, a, n, c, hs, _⟩
 ·have HB : Hid _ := hb1
  clear hb1 hI hR
  go_wp2_with (go_at_call 25; refine (answer_nil _ _).mono ?_; rintro x w3 ⟨rfl, hw⟩; rw [hw]; clear hw w3)
  go_ret2
  have hb2 : Below w.heap.size w (w1.alloc (Obj.cells #[Value.int IntKind.i64 0, Value.int IntKind.i64 0, Value.int IntKind.i64 0, Value.int IntKind.i64 0, Value.int IntKind.i64 0, Value.slice none 0 0] 85)) := HB.out.trans ((Ca.below_alloc _ _).mono HB.out.size)
  exact ⟨_, _, _, rfl, URow.nil _ _, h.below hb2, XTch.of_below hb2⟩
 ·rw [HNone.out] at hs
  cases hs
set_option maxHeartbeats 2000000 in
theorem disp_share {ws : List Int} {r : Rqt} {i : Prop} {f : Option Addr → Nat → XS × List Int × Int} (h : ExoAt w Kb L S) (hF : Frm w) (e : Int) (v : Value) (hv : RdV w v ws) (hu : U64s ws) (hl : En.isB S.E e = true) (hr : reqOf ws = some r) (h1 : r.c ≤ 5)
  (hC : ∀ av nv cv, (∀ w2, RdV w2 v ws → RdV w2 (.slice av nv cv) r.vals) → ∀ W, Below w.heap.size w W → Calls Tryz.prog 27 #[ptr Kb, .agg #[.int .i64 e, .int .i64 r.c, .int .i64 r.a, .int .i64 r.b, .int .i64 r.d, .slice av nv cv]] W (RawDid Kb L i W f)) :
  Calls Tryz.prog 9 #[ptr Kb, .int .i64 e, v] w (RawDid Kb L i w f) := by
 have k1 := h.k1
 have hI := En.is_at L.eb L.eg S.E S.V e w h.env
 rw [hl] at hI
 have hR := read_at e v ws w hv hu hF
 have HSome : Hid (reqOf ws = some r) := hr
 have HC : Hid (∀ av nv cv, (∀ w2, RdV w2 v ws → RdV w2 (.slice av nv cv) r.vals) → ∀ W, Below w.heap.size w W → Calls Tryz.prog 27 #[ptr Kb, .agg #[.int .i64 e, .int .i64 r.c, .int .i64 r.a, .int .i64 r.b, .int .i64 r.d, .slice av nv cv]] W (RawDid Kb L i W f)) := hC
 have g1 : decide ((r.c : Int) ≤ 5) = true := decide_eq_true (by omega)
 clear hv hu hF hr hl hC
 go_enter Tryz.func9, Tryz.ntmps9
 go_wp2_with (first | (go_at_call 24; refine hI.mono ?_; rintro x w1 ⟨rfl, hw⟩; rw [hw]; clear hw w1) | fail)
 refine hR.mono ?_
 rintro x w1 ⟨hb1, h2⟩
 rcases h2 with ⟨hs, _⟩ | ⟨r2, av, nv, cv, hs, rfl, hst⟩
 ·rw [HSome.out] at hs
  cases hs
 ·have hrr : r2 = r := by rw [HSome.out] at hs; exact (Option.some.inj hs).symm
  subst hrr
  obtain ⟨W, hW⟩ : ∃ W, W = w1.alloc (.cells #[.int .i64 e, .int .i64 r2.c, .int .i64 r2.a, .int .i64 r2.b, .int .i64 r2.d, .slice av nv cv] 85) := ⟨_, rfl⟩
  have hbW : Below w.heap.size w W := by rw [hW]; exact hb1.trans ((Ca.below_alloc _ _).mono hb1.size)
  have hD := HC.out av nv cv hst W hbW
  have HBW : Hid _ := hbW
  have HW : Hid _ := hW
  clear hs hst hbW hW hI hR hb1
  generalize (r2.c : Int) = C at *
  generalize r2.a = ra at *
  generalize r2.b = rb at *
  generalize r2.d = rd at *
  go_wp2_with fail
  rw [← HW.out]
  clear HW
  refine hD.mono ?_
  rintro x w3 ⟨a', c', hn, a3, n3, c3, rfl, hr3, hE3, hT3⟩
  have HD : Hid (RawDid Kb L i w f (.returned (.tuple #[.slice a3 n3 c3, .int .i64 (f a' c').2.2])) w3) := ⟨a', c', fun g off q => Nat.le_trans HBW.out.size (hn g off q), a3, n3, c3, rfl, hr3.mono HBW.out.size, hE3, (XTch.of_below HBW.out).trans hT3⟩
  clear hn hr3 hE3 hT3 hD
  generalize (f a' c').2.2 = R at *
  go_wp2
  go_ret2
  exact HD.out
set_option maxHeartbeats 2000000 in
theorem disp_move {ws : List Int} {r : Rqt} {i : Prop} {f : Option Addr → Nat → XS × List Int × Int} (h : ExoAt w Kb L S) (hF : Frm w) (e : Int) (v : Value) (hv : RdV w v ws) (hu : U64s ws) (hl : En.isB S.E e = true) (hr : reqOf ws = some r) (h1 : 5 < r.c) (h2 : r.c ≤ 10)
  (hC : ∀ av nv cv, (∀ w2, RdV w2 v ws → RdV w2 (.slice av nv cv) r.vals) → ∀ W, Below w.heap.size w W → Calls Tryz.prog 28 #[ptr Kb, .agg #[.int .i64 e, .int .i64 r.c, .int .i64 r.a, .int .i64 r.b, .int .i64 r.d, .slice av nv cv]] W (RawDid Kb L i W f)) :
  Calls Tryz.prog 9 #[ptr Kb, .int .i64 e, v] w (RawDid Kb L i w f) := by
 have k1 := h.k1
 have hI := En.is_at L.eb L.eg S.E S.V e w h.env
 rw [hl] at hI
 have hR := read_at e v ws w hv hu hF
 have HSome : Hid (reqOf ws = some r) := hr
 have HC : Hid (∀ av nv cv, (∀ w2, RdV w2 v ws → RdV w2 (.slice av nv cv) r.vals) → ∀ W, Below w.heap.size w W → Calls Tryz.prog 28 #[ptr Kb, .agg #[.int .i64 e, .int .i64 r.c, .int .i64 r.a, .int .i64 r.b, .int .i64 r.d, .slice av nv cv]] W (RawDid Kb L i W f)) := hC
 have g1 : decide ((r.c : Int) ≤ 5) = false := decide_eq_false (by omega)
 have g2 : decide ((r.c : Int) ≤ 10) = true := decide_eq_true (by omega)
 clear hv hu hF hr hl hC
 go_enter Tryz.func9, Tryz.ntmps9
 go_wp2_with (first | (go_at_call 24; refine hI.mono ?_; rintro x w1 ⟨rfl, hw⟩; rw [hw]; clear hw w1) | fail)
 refine hR.mono ?_
 rintro x w1 ⟨hb1, h2⟩
 rcases h2 with ⟨hs, _⟩ | ⟨r2, av, nv, cv, hs, rfl, hst⟩
 ·rw [HSome.out] at hs
  cases hs
 ·have hrr : r2 = r := by rw [HSome.out] at hs; exact (Option.some.inj hs).symm
  subst hrr
  obtain ⟨W, hW⟩ : ∃ W, W = w1.alloc (.cells #[.int .i64 e, .int .i64 r2.c, .int .i64 r2.a, .int .i64 r2.b, .int .i64 r2.d, .slice av nv cv] 85) := ⟨_, rfl⟩
  have hbW : Below w.heap.size w W := by rw [hW]; exact hb1.trans ((Ca.below_alloc _ _).mono hb1.size)
  have hD := HC.out av nv cv hst W hbW
  have HBW : Hid _ := hbW
  have HW : Hid _ := hW
  clear hs hst hbW hW hI hR hb1
  generalize (r2.c : Int) = C at *
  generalize r2.a = ra at *
  generalize r2.b = rb at *
  generalize r2.d = rd at *
  go_wp2_with fail
  rw [← HW.out]
  clear HW
  refine hD.mono ?_
  rintro x w3 ⟨a', c', hn, a3, n3, c3, rfl, hr3, hE3, hT3⟩
  have HD : Hid (RawDid Kb L i w f (.returned (.tuple #[.slice a3 n3 c3, .int .i64 (f a' c').2.2])) w3) := ⟨a', c', fun g off q => Nat.le_trans HBW.out.size (hn g off q), a3, n3, c3, rfl, hr3.mono HBW.out.size, hE3, (XTch.of_below HBW.out).trans hT3⟩
  clear hn hr3 hE3 hT3 hD
  generalize (f a' c').2.2 = R at *
  go_wp2
  go_ret2
  exact HD.out
set_option maxHeartbeats 2000000 in
theorem disp_talk {ws : List Int} {r : Rqt} {i : Prop} {f : Option Addr → Nat → XS × List Int × Int} (h : ExoAt w Kb L S) (hF : Frm w) (e : Int) (v : Value) (hv : RdV w v ws) (hu : U64s ws) (hl : En.isB S.E e = true) (hr : reqOf ws = some r) (h1 : 10 < r.c) (h2 : r.c ≤ 12)
  (hC : ∀ av nv cv, (∀ w2, RdV w2 v ws → RdV w2 (.slice av nv cv) r.vals) → ∀ W, Below w.heap.size w W → Calls Tryz.prog 29 #[ptr Kb, .agg #[.int .i64 e, .int .i64 r.c, .int .i64 r.a, .int .i64 r.b, .int .i64 r.d, .slice av nv cv]] W (RawDid Kb L i W f)) :
  Calls Tryz.prog 9 #[ptr Kb, .int .i64 e, v] w (RawDid Kb L i w f) := by
 have k1 := h.k1
 have hI := En.is_at L.eb L.eg S.E S.V e w h.env
 rw [hl] at hI
 have hR := read_at e v ws w hv hu hF
 have HSome : Hid (reqOf ws = some r) := hr
 have HC : Hid (∀ av nv cv, (∀ w2, RdV w2 v ws → RdV w2 (.slice av nv cv) r.vals) → ∀ W, Below w.heap.size w W → Calls Tryz.prog 29 #[ptr Kb, .agg #[.int .i64 e, .int .i64 r.c, .int .i64 r.a, .int .i64 r.b, .int .i64 r.d, .slice av nv cv]] W (RawDid Kb L i W f)) := hC
 have g1 : decide ((r.c : Int) ≤ 5) = false := decide_eq_false (by omega)
 have g2 : decide ((r.c : Int) ≤ 10) = false := decide_eq_false (by omega)
 have g3 : decide ((r.c : Int) ≤ 12) = true := decide_eq_true (by omega)
 clear hv hu hF hr hl hC
 go_enter Tryz.func9, Tryz.ntmps9
 go_wp2_with (first | (go_at_call 24; refine hI.mono ?_; rintro x w1 ⟨rfl, hw⟩; rw [hw]; clear hw w1) | fail)
 refine hR.mono ?_
 rintro x w1 ⟨hb1, h2⟩
 rcases h2 with ⟨hs, _⟩ | ⟨r2, av, nv, cv, hs, rfl, hst⟩
 ·rw [HSome.out] at hs
  cases hs
 ·have hrr : r2 = r := by rw [HSome.out] at hs; exact (Option.some.inj hs).symm
  subst hrr
  obtain ⟨W, hW⟩ : ∃ W, W = w1.alloc (.cells #[.int .i64 e, .int .i64 r2.c, .int .i64 r2.a, .int .i64 r2.b, .int .i64 r2.d, .slice av nv cv] 85) := ⟨_, rfl⟩
  have hbW : Below w.heap.size w W := by rw [hW]; exact hb1.trans ((Ca.below_alloc _ _).mono hb1.size)
  have hD := HC.out av nv cv hst W hbW
  have HBW : Hid _ := hbW
  have HW : Hid _ := hW
  clear hs hst hbW hW hI hR hb1
  generalize (r2.c : Int) = C at *
  generalize r2.a = ra at *
  generalize r2.b = rb at *
  generalize r2.d = rd at *
  go_wp2_with fail
  rw [← HW.out]
  clear HW
  refine hD.mono ?_
  rintro x w3 ⟨a', c', hn, a3, n3, c3, rfl, hr3, hE3, hT3⟩
  have HD : Hid (RawDid Kb L i w f (.returned (.tuple #[.slice a3 n3 c3, .int .i64 (f a' c').2.2])) w3) := ⟨a', c', fun g off q => Nat.le_trans HBW.out.size (hn g off q), a3, n3, c3, rfl, hr3.mono HBW.out.size, hE3, (XTch.of_below HBW.out).trans hT3⟩
  clear hn hr3 hE3 hT3 hD
  generalize (f a' c').2.2 = R at *
  go_wp2
  go_ret2
  exact HD.out
set_option maxHeartbeats 2000000 in
theorem disp_disk {ws : List Int} {r : Rqt} {i : Prop} {f : Option Addr → Nat → XS × List Int × Int} (h : ExoAt w Kb L S) (hF : Frm w) (e : Int) (v : Value) (hv : RdV w v ws) (hu : U64s ws) (hl : En.isB S.E e = true) (hr : reqOf ws = some r) (h1 : 12 < r.c)
  (hC : ∀ av nv cv, (∀ w2, RdV w2 v ws → RdV w2 (.slice av nv cv) r.vals) → ∀ W, Below w.heap.size w W → Calls Tryz.prog 30 #[ptr Kb, .agg #[.int .i64 e, .int .i64 r.c, .int .i64 r.a, .int .i64 r.b, .int .i64 r.d, .slice av nv cv]] W (RawDid Kb L i W f)) :
  Calls Tryz.prog 9 #[ptr Kb, .int .i64 e, v] w (RawDid Kb L i w f) := by
 have k1 := h.k1
 have hI := En.is_at L.eb L.eg S.E S.V e w h.env
 rw [hl] at hI
 have hR := read_at e v ws w hv hu hF
 have HSome : Hid (reqOf ws = some r) := hr
 have HC : Hid (∀ av nv cv, (∀ w2, RdV w2 v ws → RdV w2 (.slice av nv cv) r.vals) → ∀ W, Below w.heap.size w W → Calls Tryz.prog 30 #[ptr Kb, .agg #[.int .i64 e, .int .i64 r.c, .int .i64 r.a, .int .i64 r.b, .int .i64 r.d, .slice av nv cv]] W (RawDid Kb L i W f)) := hC
 have g1 : decide ((r.c : Int) ≤ 5) = false := decide_eq_false (by omega)
 have g2 : decide ((r.c : Int) ≤ 10) = false := decide_eq_false (by omega)
 have g3 : decide ((r.c : Int) ≤ 12) = false := decide_eq_false (by omega)
 clear hv hu hF hr hl hC
 go_enter Tryz.func9, Tryz.ntmps9
 go_wp2_with (first | (go_at_call 24; refine hI.mono ?_; rintro x w1 ⟨rfl, hw⟩; rw [hw]; clear hw w1) | fail)
 refine hR.mono ?_
 rintro x w1 ⟨hb1, h2⟩
 rcases h2 with ⟨hs, _⟩ | ⟨r2, av, nv, cv, hs, rfl, hst⟩
 ·rw [HSome.out] at hs
  cases hs
 ·have hrr : r2 = r := by rw [HSome.out] at hs; exact (Option.some.inj hs).symm
  subst hrr
  obtain ⟨W, hW⟩ : ∃ W, W = w1.alloc (.cells #[.int .i64 e, .int .i64 r2.c, .int .i64 r2.a, .int .i64 r2.b, .int .i64 r2.d, .slice av nv cv] 85) := ⟨_, rfl⟩
  have hbW : Below w.heap.size w W := by rw [hW]; exact hb1.trans ((Ca.below_alloc _ _).mono hb1.size)
  have hD := HC.out av nv cv hst W hbW
  have HBW : Hid _ := hbW
  have HW : Hid _ := hW
  clear hs hst hbW hW hI hR hb1
  generalize (r2.c : Int) = C at *
  generalize r2.a = ra at *
  generalize r2.b = rb at *
  generalize r2.d = rd at *
  go_wp2_with fail
  rw [← HW.out]
  clear HW
  refine hD.mono ?_
  rintro x w3 ⟨a', c', hn, a3, n3, c3, rfl, hr3, hE3, hT3⟩
  have HD : Hid (RawDid Kb L i w f (.returned (.tuple #[.slice a3 n3 c3, .int .i64 (f a' c').2.2])) w3) := ⟨a', c', fun g off q => Nat.le_trans HBW.out.size (hn g off q), a3, n3, c3, rfl, hr3.mono HBW.out.size, hE3, (XTch.of_below HBW.out).trans hT3⟩
  clear hn hr3 hE3 hT3 hD
  generalize (f a' c').2.2 = R at *
  go_wp2
  go_ret2
  exact HD.out
end
end Go.Proofs.YtbhpafgoofkkmaaGreatDoor
