import Derived.Test.YtbhpafgoofkkmaaGreatDoorRxC
import Derived.Test.YtbhpafgoofkkmaaGreatDoorXoR
set_option linter.all false
namespace Go.Proofs.YtbhpafgoofkkmaaGreatDoor
open Go.RowKit
structure OkR (S : XS) : Prop where
 k : Ex.KInv S.T S.n
 n1 : 1 ≤ S.n
 n2 : S.n ≤ 1024
 pg : ∀ e, e < 12 → ∀ p x, S.F e p = some x → x.1 < S.n
 x : Xd.XInv S.C S.d
 d1 : 1 ≤ S.d
 d2 : S.d ≤ 1000
theorem okR_of {w : World} {K : Nat} {L : XL} {S : XS} (h : ExoAt w K L S) (hd : S.d = 16) : OkR S := ⟨h.mem.inv, h.mem.n1, h.mem.n2, h.mem.pg, h.disk.inv, by omega, by omega⟩
section
variable {w w' : World} {X : Nat} {Y : RxL} {k : Nat} {S : XS}
theorem OkR.lnk (o : OkR S) {L : List Ca.Ce} {last : Int} (hr : Ca.Rel S.T L last) (h0 : 0 ≤ last) (h1 : L.length ≤ k) (h2 : last ≤ k) (hk : k ≤ 800) : Ex.Lnk S.T L last S.n S.F := ⟨hr, o.k, o.n1, o.n2, o.pg, h0, by omega, by omega⟩
theorem OkR.lx (o : OkR S) {L : List Ca.Ce} {last : Int} (hr : Ca.Rel S.C L last) (h0 : 0 ≤ last) (h1 : L.length ≤ k) (h2 : last ≤ k) (hk : k ≤ 800) : Xd.Lx S.C L last S.d := ⟨hr, o.x, o.d1, o.d2, h0, by omega, by omega⟩
theorem rpM (hu : UpdP (Ex.RFoot Y.J.p0 Y.QM S.n) w w') : UpdP (RP X Y S.n) w w' := hu.mono (fun q h => Or.inl h)
theorem rpD (hu : UpdP (Xd.RF Y.J.p1 Y.QD) w w') : UpdP (RP X Y S.n) w w' := hu.mono (fun q h => Or.inr (Or.inl h))
theorem rpI (hu : Upd X w w') : UpdP (RP X Y S.n) w w' := hu.p _ (Or.inr (Or.inr rfl))
theorem RefX.grew (h : RefX w X Y k S) {vs : List Int} {L : List Ca.Ce} {last : Int} {F : Ex.Pages} {T : Ca.Tab} (hg : Ex.Grew w' Y.J.p0 Y.QM S.n vs L last F T) (h1 : L.length ≤ k) (h2 : last ≤ k) (hu : UpdP (Ex.RFoot Y.J.p0 Y.QM S.n) w w') : RefX w' X Y (k + 1) { S with vs := vs, T := T, F := F } := by
 obtain ⟨L', l', g1, g2, g3, g4, g5⟩ := hg
 exact h.updM (Nat.le_succ k) ⟨L', l', g1, g2, g3, by omega, by push_cast; omega⟩ hu
theorem RefX.gw (h : RefX w X Y k S) {m m' : Nat} {l : Xd.Lines} {L : List Ca.Ce} {last : Int} {C : Ca.Tab} (hg : Xd.Gw w' Y.J.p1 Y.QD S.d m S.ds l L last C) (h1 : L.length ≤ k) (h2 : last ≤ k) (hu : UpdP (Xd.RF Y.J.p1 Y.QD) w w') : RefX w' X Y (k + 1) { S with m := m', ds := S.ds, l := l, C := C } := by
 obtain ⟨L', l', g1, g2, g3, g4, g5⟩ := hg
 exact h.updD (Nat.le_succ k) ⟨L', l', m, g1, g2, g3, by omega, by push_cast; omega⟩ hu
theorem x_alloc (h : RefX w X Y k S) (o : OkR S) (hk : k ≤ 800) (e : Int) :
  Calls Tryz.prog 88 #[ptr Y.J.p0, .int .i64 e] w fun x w' => x = .returned (.tuple #[.int .i64 (Ex.allocA S.T S.n e), .int .i64 (Ex.allocR S.T S.n e)]) ∧ RefX w' X Y (k + 1) { S with vs := Ex.allocV S.T S.n e S.vs, T := Ex.allocT S.T S.n e, F := S.F } ∧ UpdP (RP X Y S.n) w w' := by
 obtain ⟨L, l, a1, a2, a3, a4, a5⟩ := h.mem
 refine (Ex.rkalloc_at a1 (o.lnk a2 a3 a4 a5 hk) e).mono ?_
 rintro x w' ⟨hx, hg, hu⟩
 exact ⟨hx, h.grew hg a4 a5 hu, rpM hu⟩
theorem x_give (h : RefX w X Y k S) (o : OkR S) (hk : k ≤ 800) (e s q r : Int) :
  Calls Tryz.prog 84 #[ptr Y.QM.c, .int .i64 e, .int .i64 s, .int .i64 q, .int .i64 r] w fun x w' => x = .returned (.tuple #[.int .i64 (Ca.giveA S.T e s q r), .int .i64 (Ca.giveR S.T e s q r)]) ∧ RefX w' X Y (k + 1) { S with vs := S.vs, T := Ca.giveT S.T e s q r, F := S.F } ∧ UpdP (RP X Y S.n) w w' := by
 obtain ⟨L, l, a1, a2, a3, a4, a5⟩ := h.mem
 refine (Ex.rkgive_at a1 (o.lnk a2 a3 a4 a5 hk) e s q r).mono ?_
 rintro x w' ⟨hx, hg, hu⟩
 exact ⟨hx, h.grew hg a4 a5 hu, rpM hu⟩
theorem x_free (h : RefX w X Y k S) (o : OkR S) (hk : k ≤ 800) (e s : Int) :
  Calls Tryz.prog 89 #[ptr Y.J.p0, .int .i64 e, .int .i64 s] w fun x w' => x = .returned (.int .i64 (Ca.dropR S.T e s)) ∧ RefX w' X Y (k + 1) { S with vs := S.vs, T := Ca.dropT S.T e s, F := Ex.tidyF (Ca.dropT S.T e s) S.F } ∧ UpdP (RP X Y S.n) w w' := by
 obtain ⟨L, l, a1, a2, a3, a4, a5⟩ := h.mem
 refine (Ex.rkfree_at a1 (o.lnk a2 a3 a4 a5 hk) e s).mono ?_
 rintro x w' ⟨hx, hg, hu⟩
 exact ⟨hx, h.grew hg a4 a5 hu, rpM hu⟩
theorem x_revoke (h : RefX w X Y k S) (o : OkR S) (hk : k ≤ 800) (e s : Int) :
  Calls Tryz.prog 90 #[ptr Y.J.p0, .int .i64 e, .int .i64 s] w fun x w' => x = .returned (.int .i64 (Ex.revR S.T e s)) ∧ RefX w' X Y (k + 1) { S with vs := S.vs, T := Ex.revT S.T e s, F := Ex.tidyF (Ex.revT S.T e s) S.F } ∧ UpdP (RP X Y S.n) w w' := by
 obtain ⟨L, l, a1, a2, a3, a4, a5⟩ := h.mem
 refine (Ex.rkrevoke_at a1 (o.lnk a2 a3 a4 a5 hk) e s).mono ?_
 rintro x w' ⟨hx, hg, hu⟩
 exact ⟨hx, h.grew hg a4 a5 hu, rpM hu⟩
theorem x_map (h : RefX w X Y k S) (o : OkR S) (hk : k ≤ 800) (e p s : Int) (b : Bool) :
  Calls Tryz.prog 91 #[ptr Y.J.p0, .int .i64 e, .int .i64 p, .int .i64 s, .bool b] w fun x w' => x = .returned (.int .i64 (Ex.kmapR S.T e p s b)) ∧ RefX w' X Y (k + 1) { S with vs := S.vs, T := S.T, F := Ex.kmapF S.T S.F e p s b } ∧ UpdP (RP X Y S.n) w w' := by
 obtain ⟨L, l, a1, a2, a3, a4, a5⟩ := h.mem
 refine (Ex.rkmap_at a1 (o.lnk a2 a3 a4 a5 hk) e p s b).mono ?_
 rintro x w' ⟨hx, hg, hu⟩
 exact ⟨hx, h.updM (Nat.le_succ k) ⟨L, l, hg, a2, a3, by omega, by push_cast; omega⟩ hu, rpM hu⟩
theorem x_unmap (h : RefX w X Y k S) (e p : Int) :
  Calls Tryz.prog 92 #[ptr Y.J.p0, .int .i64 e, .int .i64 p] w fun x w' => x = .returned (.int .i64 (Ex.kunmapR S.F e p)) ∧ RefX w' X Y (k + 1) { S with vs := S.vs, T := S.T, F := Ex.kunmapF S.F e p } ∧ UpdP (RP X Y S.n) w w' := by
 obtain ⟨L, l, a1, a2, a3, a4, a5⟩ := h.mem
 refine (Ex.rkunmap_at a1 e p).mono ?_
 rintro x w' ⟨hx, hg, hu⟩
 exact ⟨hx, h.updM (Nat.le_succ k) ⟨L, l, hg, a2, a3, by omega, by push_cast; omega⟩ hu, rpM hu⟩
theorem x_load (h : RefX w X Y k S) (e a : Int) (ha : 0 ≤ a) :
  Calls Tryz.prog 93 #[ptr Y.J.p0, .int .i64 e, .int .u64 a] w fun x w' => x = .returned (.tuple #[.int .u64 (Ex.kloadR S.n S.vs S.F e a).1, .int .i64 (Ex.kloadR S.n S.vs S.F e a).2]) ∧ RefX w' X Y (k + 1) S ∧ UpdP (RP X Y S.n) w w' := by
 obtain ⟨L, l, a1, a2, a3, a4, a5⟩ := h.mem
 refine (Ex.rkload_at a1 e a ha).mono ?_
 rintro x w' ⟨hx, hb⟩
 exact ⟨hx, (h.below hb).mono (Nat.le_succ k), UpdP.of_below hb⟩
theorem x_store (h : RefX w X Y k S) (e a v : Int) (ha : 0 ≤ a) :
  Calls Tryz.prog 94 #[ptr Y.J.p0, .int .i64 e, .int .u64 a, .int .u64 v] w fun x w' => x = .returned (.int .i64 (Ex.kstoreR S.n S.F e a)) ∧ RefX w' X Y (k + 1) { S with vs := Ex.kstoreV S.n S.vs S.F e a v, T := S.T, F := S.F } ∧ UpdP (RP X Y S.n) w w' := by
 obtain ⟨L, l, a1, a2, a3, a4, a5⟩ := h.mem
 refine (Ex.rkstore_at a1 e a v ha).mono ?_
 rintro x w' ⟨hx, hg, hu⟩
 exact ⟨hx, h.updM (Nat.le_succ k) ⟨L, l, hg, a2, a3, by omega, by push_cast; omega⟩ hu, rpM hu⟩
theorem x_copy (h : RefX w X Y k S) (o : OkR S) (hk : k ≤ 800) (e a b : Int) :
  Calls Tryz.prog 95 #[ptr Y.J.p0, .int .i64 e, .int .i64 a, .int .i64 b] w fun x w' => x = .returned (.int .i64 (Ex.kcopyR S.T S.n e a b)) ∧ RefX w' X Y (k + 1) { S with vs := Ex.kcopyV S.T S.n S.vs e a b, T := S.T, F := S.F } ∧ UpdP (RP X Y S.n) w w' := by
 obtain ⟨L, l, a1, a2, a3, a4, a5⟩ := h.mem
 refine (Ex.rkcopy_at a1 (o.lnk a2 a3 a4 a5 hk) e a b).mono ?_
 rintro x w' ⟨hx, hg, hu⟩
 exact ⟨hx, h.updM (Nat.le_succ k) ⟨L, l, hg, a2, a3, by omega, by push_cast; omega⟩ hu, rpM hu⟩
theorem x_read (h : RefX w X Y k S) (o : OkR S) (hk : k ≤ 800) (e s d : Int) :
  Calls Tryz.prog 96 #[ptr Y.J.p0, .int .i64 e, .int .i64 s, .int .i64 d] w fun x w' => x = .returned (.tuple #[.int .u64 (Ex.kreadR S.T S.n S.vs e s d).1, .int .i64 (Ex.kreadR S.T S.n S.vs e s d).2]) ∧ RefX w' X Y (k + 1) S ∧ UpdP (RP X Y S.n) w w' := by
 obtain ⟨L, l, a1, a2, a3, a4, a5⟩ := h.mem
 refine (Ex.rkread_at a1 (o.lnk a2 a3 a4 a5 hk) e s d).mono ?_
 rintro x w' ⟨hx, hb⟩
 exact ⟨hx, (h.below hb).mono (Nat.le_succ k), UpdP.of_below hb⟩
theorem x_write (h : RefX w X Y k S) (o : OkR S) (hk : k ≤ 800) (e s d v : Int) :
  Calls Tryz.prog 97 #[ptr Y.J.p0, .int .i64 e, .int .i64 s, .int .i64 d, .int .u64 v] w fun x w' => x = .returned (.int .i64 (Ex.kwriteR S.T S.n e s d)) ∧ RefX w' X Y (k + 1) { S with vs := Ex.kwriteV S.T S.n S.vs e s d v, T := S.T, F := S.F } ∧ UpdP (RP X Y S.n) w w' := by
 obtain ⟨L, l, a1, a2, a3, a4, a5⟩ := h.mem
 refine (Ex.rkwrite_at a1 (o.lnk a2 a3 a4 a5 hk) e s d v).mono ?_
 rintro x w' ⟨hx, hg, hu⟩
 exact ⟨hx, h.updM (Nat.le_succ k) ⟨L, l, hg, a2, a3, by omega, by push_cast; omega⟩ hu, rpM hu⟩
theorem x_send (h : RefX w X Y k S) (hk : k ≤ 800) (f t : Int) (a : Option Addr) (ws : List Int) (cap : Nat) (hr : Ip.Rd w a ws) (a' : Option Addr) (c' : Nat) :
  Calls Tryz.prog 98 #[.pointer (some ⟨X, 3, none⟩), .int .i64 f, .int .i64 t, .slice a ws.length cap] w fun x w' => x = .returned (.int .i64 (Ip.sendR S.Q f t ws.length)) ∧ RefX w' X Y (k + 1) { S with Q := Ip.sendQ S.Q f t a' c' ws } ∧ UpdP (RP X Y S.n) w w' := by
 obtain ⟨v, L, c1, c2, c3⟩ := h.ipc
 refine (Ip.rsend_at X v L f t a ws cap w c1 (by omega) hr h.MS).mono ?_
 rintro x w' ⟨hx, ⟨v', a2, cap2, hI⟩, hu⟩
 rw [c2.sendR] at hx
 exact ⟨hx, h.updI (Nat.le_succ k) ⟨v', _, hI, c2.send f t a2 a' cap2 c' ws, Nat.le_trans (Ip.rsendL_len _ _ _ _ _ _) (by omega)⟩ hu, rpI hu⟩
theorem x_recv (h : RefX w X Y k S) (hk : k ≤ 800) (e : Int) :
  Calls Tryz.prog 81 #[.pointer (some ⟨X, 3, none⟩), .int .i64 e] w fun x w' => (Ip.qat S.Q e = [] ∧ x = .returned (.tuple #[.int .i64 0, .slice none 0 0, .bool false]) ∧ w' = w) ∨
   ∃ m R a cap, Ip.qat S.Q e = m :: R ∧ x = .returned (.tuple #[.int .i64 m.fr, .slice a m.ws.length cap, .bool true]) ∧ Ip.Rd w' a m.ws ∧ RefX w' X Y (k + 1) { S with Q := Ip.recvQ S.Q e } ∧ UpdP (RP X Y S.n) w w' := by
 obtain ⟨v, L, c1, c2, c3⟩ := h.ipc
 rcases Ip.first_or e L with hno | ⟨i, m, hm, htt, hfirst⟩
 ·refine (Ip.rrecv_no X v L e w c1 (by omega) hno).mono ?_
  rintro x w' ⟨hx, hw⟩
  exact Or.inl ⟨(c2.none hno).1, hx, hw⟩
 ·obtain ⟨⟨q, R, hq, hqf, hqw⟩, hrel⟩ := c2.some hm htt hfirst
  refine (Ip.rrecv_yes X v L e i m w c1 (by omega) hm htt hfirst).mono ?_
  rintro x w' ⟨hx, ⟨v', hI⟩, hu⟩
  refine Or.inr ⟨q, R, m.a, m.cap, hq, ?_, ?_, h.updI (Nat.le_succ k) ⟨v', _, hI, hrel, ?_⟩ hu, rpI hu⟩
  ·rw [hx, hqf, hqw]
  ·have hwd := c1.wd m (List.mem_of_getElem? hm)
   rw [hqw]
   exact (hwd.keep (fun q cs fr hh => (hu.block q (lt_of_heap hh) (heap_apart hh c1.head (by decide))).trans hh)).rd
  ·rw [List.length_append, List.length_take, List.length_drop]
   omega
theorem x_xalloc (h : RefX w X Y k S) (o : OkR S) (hk : k ≤ 800) (e f n : Int) (hf : Ca.I64 f) (hn : Ca.I64 n) :
  Calls Tryz.prog 83 #[ptr Y.J.p1, .int .i64 e, .int .i64 f, .int .i64 n] w fun x w' => x = .returned (.tuple #[.int .i64 (Xd.xallocA S.C S.d e f n), .int .i64 (Xd.xallocR S.C S.d e f n)]) ∧ RefX w' X Y (k + 1) { S with m := S.m, ds := S.ds, l := S.l, C := Xd.xallocT S.C S.d e f n } ∧ UpdP (RP X Y S.n) w w' := by
 obtain ⟨L, l, m, a1, a2, a3, a4, a5⟩ := h.disk
 refine (Xd.rxalloc_at a1 (o.lx a2 a3 a4 a5 hk) e f n hf hn).mono ?_
 rintro x w' ⟨hx, hg, hu⟩
 exact ⟨hx, h.gw hg a4 a5 hu, rpD hu⟩
theorem x_xgive (h : RefX w X Y k S) (o : OkR S) (hk : k ≤ 800) (e s q r : Int) :
  Calls Tryz.prog 84 #[ptr Y.QD.c, .int .i64 e, .int .i64 s, .int .i64 q, .int .i64 r] w fun x w' => x = .returned (.tuple #[.int .i64 (Ca.giveA S.C e s q r), .int .i64 (Ca.giveR S.C e s q r)]) ∧ RefX w' X Y (k + 1) { S with m := S.m, ds := S.ds, l := S.l, C := Ca.giveT S.C e s q r } ∧ UpdP (RP X Y S.n) w w' := by
 obtain ⟨L, l, m, a1, a2, a3, a4, a5⟩ := h.disk
 refine (Xd.rxgive_at a1 (o.lx a2 a3 a4 a5 hk) e s q r).mono ?_
 rintro x w' ⟨hx, hg, hu⟩
 exact ⟨hx, h.gw hg a4 a5 hu, rpD hu⟩
theorem x_xrevoke (h : RefX w X Y k S) (o : OkR S) (hk : k ≤ 800) (e s : Int) :
  Calls Tryz.prog 85 #[ptr Y.QD.c, .int .i64 e, .int .i64 s] w fun x w' => ∃ N : Int, x = .returned (.tuple #[.int .i64 N, .int .i64 (Xd.revR S.C e s)]) ∧ RefX w' X Y (k + 1) { S with m := S.m, ds := S.ds, l := S.l, C := Xd.revT S.C e s } ∧ UpdP (RP X Y S.n) w w' := by
 obtain ⟨L, l, m, a1, a2, a3, a4, a5⟩ := h.disk
 refine (Xd.rxrevoke_at a1 (o.lx a2 a3 a4 a5 hk) e s).mono ?_
 rintro x w' ⟨N, hx, hg, hu⟩
 exact ⟨N, hx, h.gw hg a4 a5 hu, rpD hu⟩
theorem x_get (h : RefX w X Y k S) (o : OkR S) (hk : k ≤ 800) (e s b : Int) (hb : Ca.I64 b) :
  Calls Tryz.prog 86 #[ptr Y.J.p1, .int .i64 e, .int .i64 s, .int .i64 b] w fun x w' => ∃ a n c, x = .returned (.tuple #[.slice a n c, .int .i64 (Xd.getRr S.C e s b)]) ∧ RdV w' (.slice a n c) (Xd.getWw S.C S.l S.ds e s b) ∧ RefX w' X Y (k + 1) { S with m := S.m + 1, ds := S.ds, l := Xd.getLl S.C S.l S.ds e s b, C := S.C } ∧ UpdP (RP X Y S.n) w w' := by
 obtain ⟨L, l, m, a1, a2, a3, a4, a5⟩ := h.disk
 unfold Xd.getRr Xd.getWw Xd.getLl
 cases hq : Xd.mayX S.C e s b 1 with
 | false =>
  refine (Xd.rxget_no a1 (o.lx a2 a3 a4 a5 hk) e s b hb hq).mono ?_
  rintro x w' ⟨hx, hbl⟩
  refine ⟨none, 0, 0, hx, RdV.nil _ _ _, h.updD (Nat.le_succ k) ⟨L, l, m, a1.below hbl, a2, a3, by omega, by push_cast; omega⟩ (UpdP.of_below hbl), UpdP.of_below hbl⟩
 | true =>
  have hbb := Xd.mayX_in o.x hq
  obtain ⟨b, rfl⟩ := nat_of b hbb.1
  refine (Xd.rxget_yes a1 (o.lx a2 a3 a4 a5 hk) e s b hb hq).mono ?_
  rintro x w' ⟨u, hx, hr, hg, hu⟩
  obtain ⟨a, c, rfl, r⟩ := hr
  exact ⟨a, _, c, hx, URow.rdv ⟨a, c, rfl, r⟩, h.updD (Nat.le_succ k) ⟨L, l, m, hg, a2, a3, by omega, by push_cast; omega⟩ hu, rpD hu⟩
theorem x_put (h : RefX w X Y k S) (o : OkR S) (hk : k ≤ 800) (e s b : Int) (hb : Ca.I64 b) {v : Value} {ws : List Int} (hv : ∀ w', UpdP (Xd.RF Y.J.p1 Y.QD) w w' → RdV w' v ws) :
  Calls Tryz.prog 87 #[ptr Y.J.p1, .int .i64 e, .int .i64 s, .int .i64 b, v] w fun x w' => x = .returned (.int .i64 (Xd.putRr S.C e s b ws.length)) ∧ RefX w' X Y (k + 1) { S with m := S.m, ds := S.ds, l := Xd.putLl S.C S.l e s b ws, C := S.C } ∧ UpdP (RP X Y S.n) w w' := by
 obtain ⟨L, l, m, a1, a2, a3, a4, a5⟩ := h.disk
 refine (Xd.rxput_at a1 (o.lx a2 a3 a4 a5 hk) e s b hb hv).mono ?_
 rintro x w' ⟨hx, hg, hu⟩
 exact ⟨hx, h.updD (Nat.le_succ k) ⟨L, l, m, hg, a2, a3, by omega, by push_cast; omega⟩ hu, rpD hu⟩
theorem x_is (h : RefX w X Y k S) (e : Int) :
  Calls Tryz.prog 31 #[ptr Y.J.p2, .int .i64 e] w fun x w' => x = .returned (.bool (En.isB S.E e)) ∧ w' = w := by
 obtain ⟨L, V, al, cl, cv, au, cu, d1, d2, d3⟩ := h.env
 rw [← d3 e]
 exact En.ris_at e w d1 d2
theorem RefX.head (h : RefX w X Y k S) : ∃ v, w.heap[X]? = some (.cells #[ptr Y.J.p0, ptr Y.J.p1, ptr Y.J.p2, v] 65) := by
 obtain ⟨v, L, c1, _⟩ := h.ipc
 exact ⟨v, c1.head⟩
theorem RefX.c0 (h : RefX w X Y k S) : w.cell? ⟨X, 0, none⟩ = some (ptr Y.J.p0) := by
 obtain ⟨v, e⟩ := h.head
 rw [cell_of_heap e]; rfl
theorem RefX.c1 (h : RefX w X Y k S) : w.cell? ⟨X, 1, none⟩ = some (ptr Y.J.p1) := by
 obtain ⟨v, e⟩ := h.head
 rw [cell_of_heap e]; rfl
theorem RefX.c2 (h : RefX w X Y k S) : w.cell? ⟨X, 2, none⟩ = some (ptr Y.J.p2) := by
 obtain ⟨v, e⟩ := h.head
 rw [cell_of_heap e]; rfl
theorem RefX.mc (h : RefX w X Y k S) : w.cell? ⟨Y.J.p0, 1, none⟩ = some (ptr Y.QM.c) := by
 obtain ⟨L, l, a1, _⟩ := h.mem
 exact a1.x1
theorem RefX.dc (h : RefX w X Y k S) : w.cell? ⟨Y.J.p1, 1, none⟩ = some (ptr Y.QD.c) := by
 obtain ⟨L, l, m, a1, _⟩ := h.disk
 exact a1.x1
theorem RefX.box (h : RefX w X Y k S) (hu : UpdP (RP X Y S.n) w w') {B : Nat} {cs : Array Value} (hB : w.heap[B]? = some (.cells cs 91)) : w'.heap[B]? = some (.cells cs 91) :=
 (hu.block B (lt_of_heap hB) (ty_ne (ok := fun t => refTy t ∨ t = 42) (fun q hq => by
   obtain ⟨cs, t, fr, e, o⟩ := h.rp q hq
   exact ⟨cs, t, fr, e, o.imp id And.left⟩) hB (by unfold refTy; decide))).trans hB
end
def RDid (X : Nat) (Y : RxL) (k n : Nat) (w : World) (r : XS × List Int × Int) (x : Ending) (w' : World) : Prop :=
 ∃ a m c, x = .returned (.tuple #[.slice a m c, .int .i64 r.2.2]) ∧ RdV w' (.slice a m c) r.2.1 ∧ RefX w' X Y (k + 1) r.1 ∧ UpdP (RP X Y n) w w'
theorem word_at (a e : Int) (w : World) (h0 : 0 ≤ a) (h1 : a < 18446744073709551616) :
  Calls Tryz.prog 82 #[.int .i64 a, .int .i64 e] w fun x w' => ∃ av m c, x = .returned (.tuple #[.slice av m c, .int .i64 e]) ∧ RdV w' (.slice av m c) (ansW e [a]) ∧ Below w.heap.size w w' := by
 have hw : IntKind.u64.wrap a = a := by
  simp [IntKind.wrap, IntKind.bits, IntKind.signed]
  omega
 by_cases he : e = 0
 ·subst he
  have HX : Hid (RdV (w.alloc (.cells #[.int .u64 a] 42)) (.slice (some ⟨w.heap.size, 0, none⟩) 1 1) (ansW 0 [a])) := by
   refine ⟨_, _, rfl, Nat.le_refl _, fun j x hj => ⟨w.heap.size, 0, rfl, ?_⟩⟩
   rw [cell_of_heap (heap_alloc_new _ _)]
   have hj' : ([a] : List Int)[j]? = some x := hj
   cases j with
   | zero =>
    simp at hj'
    subst hj'
    rfl
   | succ j => simp at hj'
  go_enter Tryz.func82, Tryz.ntmps82
  go_wp2
  go_ret2
  exact ⟨_, _, _, rfl, HX.out, Ca.below_alloc _ _⟩
 ·have hne : (e == 0) = false := by simpa using he
  have HX : Hid (ansW e [a] = []) := ans_err he _
  clear he
  go_enter Tryz.func82, Tryz.ntmps82
  go_wp2
  go_ret2
  exact ⟨_, _, _, rfl, by rw [HX.out]; exact RdV.nil _ _ _, Below.refl _ _⟩
end Go.Proofs.YtbhpafgoofkkmaaGreatDoor
