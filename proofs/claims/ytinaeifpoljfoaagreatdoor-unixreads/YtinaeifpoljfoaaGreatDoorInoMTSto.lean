import Derived.Test.YtinaeifpoljfoaaGreatDoorBitC
import Derived.Deep.MidRow
import Derived.Laws.ResultCell
import Derived.Laws.Rows
import Derived.Laws.Tables
import Derived.Deep.RegionHeld3
import Derived.Deep.RegionLaw
set_option linter.all false
set_option maxRecDepth 100000
set_option maxHeartbeats 16000000
namespace Go.Proofs.YtinaeifpoljfoaaGreatDoor
open Go.RowKit
structure Ino where
 kind : Int
 links : Int
 txt : List Int
 blk : List Nat
def Ino.no : Ino := ⟨0, 0, [], []⟩
def need (s : Nat) : Nat := (s + 31) / 32
def Ino.row (x : Ino) : List Int := [x.kind, x.links, (x.txt.length : Int)] ++ x.blk.map (fun b : Nat => (b : Int)) ++ List.replicate (6 - x.blk.length) 0
theorem Ino.row_len {x : Ino} (h : x.blk.length ≤ 6) : x.row.length = 9 := by
 simp [Ino.row];omega
def chunk (t : List Int) (k : Nat) : List Int := (t.drop (32 * k)).take 32 ++ List.replicate (32 - (t.length - 32 * k)) 0
structure FS where
 n : Nat
 iw : List Nat
 bw : List Nat
 ino : Nat → Ino
def FS.head (F : FS) : List Int := [318923232595, (F.n : Int)] ++ F.iw.map (fun x : Nat => (x : Int)) ++ F.bw.map (fun x : Nat => (x : Int)) ++ List.replicate (29 - F.bw.length) 0
def FS.at (F : FS) (i : Nat) : Ino := if i < 32 then F.ino i else Ino.no
def FS.tab (F : FS) (j : Nat) : List Int := (F.at (3 * j)).row ++ (F.at (3 * j + 1)).row ++ (F.at (3 * j + 2)).row ++ List.replicate 5 0
def FS.set (F : FS) (i : Nat) (x : Ino) : FS := { F with ino := fun j => if j = i then x else F.ino j }
theorem FS.set_same (F : FS) (i : Nat) (x : Ino) : (F.set i x).ino i = x := if_pos rfl
theorem FS.set_other (F : FS) (i j : Nat) (x : Ino) (h : j ≠ i) : (F.set i x).ino j = F.ino j := if_neg h
structure FInv (F : FS) : Prop where
 n1 : 13 ≤ F.n
 n2 : F.n ≤ 1024
 iw : Bi.Wf 32 F.iw
 bw : Bi.Wf F.n F.bw
 low : ∀ b, b < 12 → Bi.bt F.bw b = true
 root : Bi.bt F.iw 0 = true
 none : ∀ i, i < 32 → Bi.bt F.iw i = false → F.ino i = Ino.no
 max : ∀ i, i < 32 → (F.ino i).txt.length ≤ 192
 byte : ∀ i, i < 32 → ∀ x ∈ (F.ino i).txt, 0 ≤ x ∧ x < 256
 num : ∀ i, i < 32 → 0 ≤ (F.ino i).kind ∧ (F.ino i).kind < 9223372036854775808 ∧ 0 ≤ (F.ino i).links ∧ (F.ino i).links < 9223372036854775808
 len : ∀ i, i < 32 → (F.ino i).blk.length = need (F.ino i).txt.length
 data : ∀ i, i < 32 → ∀ b ∈ (F.ino i).blk, 12 ≤ b ∧ b < F.n ∧ Bi.bt F.bw b = true
 one : ∀ i j, i < 32 → j < 32 → ∀ b, b ∈ (F.ino i).blk → b ∈ (F.ino j).blk → i = j
 nd : ∀ i, i < 32 → (F.ino i).blk.Nodup
 whose : ∀ b, 12 ≤ b → b < F.n → Bi.bt F.bw b = true → ∃ i, i < 32 ∧ b ∈ (F.ino i).blk
theorem FInv.six {F : FS} (h : FInv F) {i : Nat} (hi : i < 32) : (F.ino i).blk.length ≤ 6 := by
 have h1 := h.len i hi;have h2 := h.max i hi;unfold need at h1;omega
theorem FInv.atlen {F : FS} (h : FInv F) (i : Nat) : (F.at i).row.length = 9 := by
 unfold FS.at
 split
 ·rename_i hi
  exact Ino.row_len (h.six hi)
 ·rfl
def lowN (f : Nat → Bool) (n : Nat) : Nat := (List.range n).findIdx (fun k => !f k)
def grow (n : Nat) : List Nat → Nat → List Nat × List Nat
 | bw, 0 => ([], bw)
 | bw, k + 1 => (lowN (Bi.bt bw) n :: (grow n (Bi.mkW bw (lowN (Bi.bt bw) n) true) k).1, (grow n (Bi.mkW bw (lowN (Bi.bt bw) n) true) k).2)
structure Holds (vs : List Int) (F : FS) : Prop where
 len : vs.length = F.n * 32
 head : frameOf vs 0 = F.head
 tab : ∀ j, j < 11 → frameOf vs (1 + j) = F.tab j
 data : ∀ i, i < 32 → ∀ k b, (F.ino i).blk[k]? = some b → frameOf vs b = chunk (F.ino i).txt k
theorem app_get (a b : List Int) (j : Nat) : (a ++ b).getD j 0 = if j < a.length then a.getD j 0 else b.getD (j - a.length) 0 := by
 simp only [List.getD_eq_getElem?_getD]
 split
 ·rename_i h; rw [List.getElem?_append_left h]
 ·rename_i h; rw [List.getElem?_append_right (by omega)]
theorem tab_word {F : FS} (h : FInv F) {i k : Nat} (hi : i < 32) (hk : k < 9) : (F.tab (i / 3)).getD (i % 3 * 9 + k) 0 = (F.ino i).row.getD k 0 := by
 have h0 := h.atlen (3 * (i / 3));have h1 := h.atlen (3 * (i / 3) + 1);have h2 := h.atlen (3 * (i / 3) + 2);have hat : F.at i = F.ino i := if_pos hi;unfold FS.tab
 have hm : i % 3 = 0 ∨ i % 3 = 1 ∨ i % 3 = 2 := by omega
 rcases hm with e | e | e
 ·have e2 : 3 * (i / 3) = i := by omega
  rw [e2] at h0 h1 h2 ⊢;rw [e, app_get, if_pos (by simp [h0, h1, h2]; omega), app_get, if_pos (by simp [h0, h1]; omega), app_get, if_pos (by rw [h0]; omega), hat]
  congr 1
  omega
 ·have e2 : 3 * (i / 3) + 1 = i := by omega
  rw [e2] at h1 ⊢;rw [e, app_get, if_pos (by simp [h0, h1, h2]; omega), app_get, if_pos (by simp [h0, h1]; omega), app_get, if_neg (by rw [h0]; omega), h0, hat]
  congr 1
  omega
 ·have e2 : 3 * (i / 3) + 2 = i := by omega
  rw [e2] at h2 ⊢;rw [e, app_get, if_pos (by simp [h0, h1, h2]; omega), app_get, if_neg (by simp [h0, h1]), hat]
  congr 1
  simp [h0, h1]
abbrev ptr (b : Nat) : Value := .pointer (some ⟨b, 0, none⟩)
theorem below_alloc (w : World) (o : Obj) : Below w.heap.size w (w.alloc o) := (Below.refl _ _).alloc (Nat.le_refl _) _
def stT : List TypeId := [172, 518, 224, 286, 289]
def stB (t : TypeId) : Bool := stT.contains t
def IsSt (w : World) (k : Nat) : Prop := ∃ cs t fr, w.heap[k]? = some (.cells cs t fr) ∧ stB t = true
theorem isSt_same {w w' : World} {k : Nat} (h : w'.heap[k]? = w.heap[k]?) : IsSt w' k ↔ IsSt w k := by unfold IsSt; rw [h]
theorem IsSt.lt {w : World} {k : Nat} (h : IsSt w k) : k < w.heap.size := by
 obtain ⟨_, _, _, e, _⟩ := h;exact lt_of_heap e
theorem not_isSt {w : World} {k : Nat} {cs : Array Value} {t : TypeId} {fr : Nat × Nat} (hk : w.heap[k]? = some (.cells cs t fr)) (ht : stB t = false) : ¬ IsSt w k := by
 rintro ⟨cs', t', fr', e, ht'⟩;rw [hk] at e;simp only [Option.some.injEq, Obj.cells.injEq] at e;obtain ⟨_, rfl, _⟩ := e;rw [ht] at ht'
 cases ht'
structure SU (lo : Nat) (Q : Nat → Prop) (w w' : World) : Prop where
 os : w'.os = w.os
 tape : w'.tape = w.tape
 output : w'.output = w.output
 size : w.heap.size ≤ w'.heap.size
 block : ∀ k, k < w.heap.size → (k < lo ∨ ¬ IsSt w k) → ¬ Q k → w'.heap[k]? = w.heap[k]?
abbrev ST (lo : Nat) (w w' : World) : Prop := SU lo (fun _ => False) w w'
section
variable {lo : Nat} {Q : Nat → Prop} {w w' w1 : World}
theorem SU.refl (lo : Nat) (Q : Nat → Prop) (w : World) : SU lo Q w w := ⟨rfl, rfl, rfl, Nat.le_refl _, fun _ _ _ _ => rfl⟩
theorem SU.trans {a b c : World} (h : SU lo Q a b) (k : SU lo Q b c) : SU lo Q a c :=
 ⟨k.os.trans h.os, k.tape.trans h.tape, k.output.trans h.output, Nat.le_trans h.size k.size, fun i hi hs hq => by
   have e := h.block i hi hs hq;refine (k.block i (Nat.lt_of_lt_of_le hi h.size) ?_ hq).trans e
   rcases hs with hs | hs
   · exact Or.inl hs
   · exact Or.inr (fun x => hs ((isSt_same e).1 x))⟩
theorem SU.of_below (h : Below w.heap.size w w') : SU lo Q w w' := ⟨h.os, h.tape, h.output, h.size, fun k hk _ _ => h.block k hk⟩
theorem SU.mono {Q' : Nat → Prop} (h : SU lo Q w w') (hq : ∀ k, Q k → Q' k) : SU lo Q' w w' := ⟨h.os, h.tape, h.output, h.size, fun k hk hs hn => h.block k hk hs (fun x => hn (hq k x))⟩
theorem SU.of_upd {g : Nat} (h : Upd g w w') (hg : Q g) : SU lo Q w w' := ⟨h.os, h.tape, h.output, h.size, fun k hk _ hn => h.block k hk (fun e => hn (by rw [e]; exact hg))⟩
theorem SU.of_updP {P : Nat → Prop} (h : UpdP P w w') (hp : ∀ k, P k → lo ≤ k ∧ IsSt w k) : SU lo Q w w' := ⟨h.os, h.tape, h.output, h.size, fun k hk hs _ => h.block k hk (fun x => by
  have := hp k x
  rcases hs with hs | hs
  · omega
  · exact hs this.2)⟩
theorem SU.any (h : ST lo w w') : SU lo Q w w' := h.mono (fun _ x => x.elim)
theorem SU.other (h : ST lo w w') {k : Nat} {cs : Array Value} {t : TypeId} {fr : Nat × Nat} (hk : w.heap[k]? = some (.cells cs t fr)) (ht : stB t = false) : w'.heap[k]? = some (.cells cs t fr) := by
 rw [h.block k (lt_of_heap hk) (Or.inr (not_isSt hk ht)) id];exact hk
theorem SU.same (h : ST lo w w') {k : Nat} {cs : Array Value} {t : TypeId} {fr : Nat × Nat} (hk : w.heap[k]? = some (.cells cs t fr)) (ht : stB t = false) : w'.heap[k]? = w.heap[k]? := (h.other hk ht).trans hk.symm
theorem SU.below {M : Nat} (h : ST lo w w') (hM : M ≤ lo) (hs : M ≤ w.heap.size) : Below M w w' := ⟨h.os, h.tape, h.output, h.size, fun k hk => h.block k (by omega) (Or.inl (by omega)) id⟩
theorem SU.far {c : Nat} {R : Array Value} (h : SU lo Q w w1) (hc : w.heap.size ≤ c) : SU lo Q w (w1.setRow c R) :=
 ⟨h.os, h.tape, h.output, by have := h.size; simpa using this, fun k hk hs hq => (setRow_other _ _ _ _ (by omega)).trans (h.block k hk hs hq)⟩
end
structure Sto where
 t : TypeId
 x : Value
 gf : FuncId
 pf : FuncId
 lo : Nat
 At : World → (Nat → Prop) → Nat → List Int → Nat → Prop
abbrev sto (S : Sto) : Value := .iface S.t S.x
structure SOk (S : Sto) : Prop where
 mget : ∀ W, (method 622 S.t S.x "Get").run Tryz.prog W = .ok (S.gf, S.x) W
 mput : ∀ W, (method 622 S.t S.x "Put").run Tryz.prog W = .ok (S.pf, S.x) W
 aput : ∀ W, (nilAhead 622 S.t S.x "Put").run Tryz.prog W = .ok (some false) W
 cget : ∀ (args : Array Value) (W : World), (callFunc S.gf args).run Tryz.prog W = .ok (.enter S.gf args) W
 cput : ∀ (args : Array Value) (W : World), (callFunc S.pf args).run Tryz.prog W = .ok (.enter S.pf args) W
 nil : ∀ W, (binOp BinOp.eql 94 (sto S) .nilIface).run Tryz.prog W = .ok (.bool false) W
 keep : ∀ {w w' : World} {P : Nat → Prop} {n : Nat} {vs : List Int} {m : Nat}, S.At w P n vs m → (∀ k, P k → w'.heap[k]? = w.heap[k]?) → S.At w' P n vs m
 foot : ∀ {w : World} {P : Nat → Prop} {n : Nat} {vs : List Int} {m : Nat}, S.At w P n vs m → ∀ k, P k → S.lo ≤ k ∧ IsSt w k
 len : ∀ {w : World} {P : Nat → Prop} {n : Nat} {vs : List Int} {m : Nat}, S.At w P n vs m → vs.length = n * 32
 mono : ∀ {w : World} {P : Nat → Prop} {n : Nat} {vs : List Int} {m m' : Nat}, S.At w P n vs m → m ≤ m' → S.At w P n vs m'
 low : ∀ {w : World} {P : Nat → Prop} {n : Nat} {vs : List Int} {m : Nat}, S.At w P n vs m → S.lo ≤ w.heap.size
 get : ∀ {w : World} {P : Nat → Prop} {n : Nat} {vs : List Int} {m : Nat}, S.At w P n vs m → ∀ (b : Nat), b < n → m ≤ 1000000000000 →
  Calls Tryz.prog S.gf #[S.x, .int .i64 (b : Int)] w fun e w' => ∃ gg cap, e = .returned (.tuple #[.slice (some ⟨gg, 0, none⟩) 32 cap, .int .i64 0]) ∧ URow w.heap.size w' (.slice (some ⟨gg, 0, none⟩) 32 cap) (frameOf vs b) ∧
   ∃ P', S.At w' P' n vs (m + 1) ∧ (∀ k, P' k → P k ∨ w.heap.size ≤ k) ∧ UpdP P w w'
 put : ∀ {w : World} {P : Nat → Prop} {n : Nat} {vs : List Int} {m : Nat}, S.At w P n vs m → ∀ (b : Nat), b < n → m ≤ 1000000000000 → ∀ (p : Nat) (ws : List Int) (cap : Nat), ¬ IsSt w p → ws.length = 32 → (∀ (j : Nat) (x : Int), ws[j]? = some x → w.cell? ⟨p, j, none⟩ = some (.int .u64 x)) →
  Calls Tryz.prog S.pf #[S.x, .int .i64 (b : Int), .slice (some ⟨p, 0, none⟩) 32 cap] w fun e w' => e = .returned (.int .i64 0) ∧
   ∃ P', S.At w' P' n (splice vs (b * 32) ws) (m + 1) ∧ (∀ k, P' k → P k ∨ w.heap.size ≤ k) ∧ UpdP P w w'
def Dk (w : World) (B : Sto) (n : Nat) (vs : List Int) (m : Nat) : Prop := SOk B ∧ ∃ P, B.At w P n vs m
abbrev BG (B : Sto) (w w' : World) : Prop := ST B.lo w w'
section
variable {w w' : World} {B : Sto} {n m : Nat} {vs : List Int}
theorem Dk.ok (h : Dk w B n vs m) : SOk B := h.1
theorem Dk.mono {m' : Nat} (h : Dk w B n vs m) (hm : m ≤ m') : Dk w B n vs m' := by
 obtain ⟨hk, P, h⟩ := h;exact ⟨hk, P, hk.mono h hm⟩
theorem Dk.keep (h : Dk w B n vs m) (hs : ∀ k, IsSt w k → w'.heap[k]? = w.heap[k]?) : Dk w' B n vs m := by
 obtain ⟨hk, P, h⟩ := h;exact ⟨hk, P, hk.keep h (fun k hp => hs k (hk.foot h k hp).2)⟩
theorem Dk.below (h : Dk w B n vs m) (hb : Below w.heap.size w w') : Dk w' B n vs m := h.keep (fun k hk => hb.block k hk.lt)
theorem Dk.other {g : Nat} (h : Dk w B n vs m) (hu : Upd g w w') (hg : ¬ IsSt w g) : Dk w' B n vs m := h.keep (fun k hk => hu.block k hk.lt (fun e => hg (by rw [← e]; exact hk)))
theorem Dk.len (h : Dk w B n vs m) : vs.length = n * 32 := by
 obtain ⟨hk, P, h⟩ := h;exact hk.len h
theorem Dk.low (h : Dk w B n vs m) : B.lo ≤ w.heap.size := by
 obtain ⟨hk, P, h⟩ := h;exact hk.low h
theorem Dk.drew (h : Dk w B n vs m) : Dk w.drew B n vs m := h.below (Di.drewN_below (w := w) ⟨1, rfl⟩)
theorem sto_nil (h : SOk B) (W : World) : (binOp BinOp.eql 94 (sto B) .nilIface).run Tryz.prog W = .ok (.bool false) W := h.nil W
end
def dsk (lo B G : Nat) : Sto := ⟨40, ptr B, 396, 398, lo, fun w P n vs m => P = (fun k => k = B ∨ k = G) ∧ lo ≤ B ∧ lo ≤ G ∧ ∃ gt pt, Di.DiskAt w B G n vs gt pt ∧ gt ≤ m ∧ pt ≤ m⟩
theorem dput_at {w : World} {B G n gt pt : Nat} {vs : List Int} (h : Di.DiskAt w B G n vs gt pt) (b : Nat) (hb : b < n) (hpt : pt ≤ 1000000000000) (p o : Nat) (ws : List Int) (cap : Nat) (hp : p ≠ B) (hl : ws.length = 32) (hw : ∀ (j : Nat) (x : Int), ws[j]? = some x → w.cell? ⟨p, o + j, none⟩ = some (.int .u64 x)) :
  Calls Tryz.prog 398 #[ptr B, .int .i64 b, .slice (some ⟨p, o, none⟩) 32 cap] w fun e w' => e = .returned (.int .i64 0) ∧ Di.DiskAt w' B G n (splice vs (b * 32) ws) gt (pt + 1) ∧ UpdP (fun k => k = B ∨ k = G) w w' := by
 have h0 : (0 : Int) ≤ (b : Int) := by omega
 have h1 : (b : Int) < (n : Int) := by omega
 have hc0 := h.c0;have hc2 := h.c2;have hfz := h.free 2;have H1 : Hid _ := h.put1;have hd0 := h.put1.c0
 have hr : ∀ (ty : TypeId) (c1 c2 : Nat), (Builtin.copy_ #[22, 22] ty #[.slice (some ⟨G, b * 32, none⟩) 32 c1, .slice (some ⟨p, o, none⟩) 32 c2]).run Tryz.prog (w.setCell ⟨B, 2, none⟩ (.int .i64 ((pt : Int) + 1))) = .ok (goInt 32) ((w.setCell ⟨B, 2, none⟩ (.int .i64 ((pt : Int) + 1))).setRow G (urow (splice vs (b * 32) ws))) := fun ty c1 c2 => by
  have hr := run_copy_row Tryz.prog (w.setCell ⟨B, 2, none⟩ (.int .i64 ((pt : Int) + 1))) 22 22 ty 45 G (b * 32) 32 c1 ⟨p, o, none⟩ 32 c2 (urow vs) 518 (uvs ws) Tryz.underlying22 (by kernel_rfl) h.put1.row
   (by simp [uvs_len, hl])
   (fun j v hv => by
     obtain ⟨x, hx, rfl⟩ := uvs_get hv;rw [add0, World.cell?_of_block (w := w) (a := ⟨p, o + j, none⟩) (Below.heap_setCell _ _ _ _ (by show p ≠ B; exact hp))]
     exact hw j x hx)
   (by simp [uvs_len, hl, urow_size, h.len]; omega) (uvs_one ws)
  rw [hr, urow_splice vs (b * 32) ws (uvs ws) rfl (by rw [h.len, hl]; omega)];simp [uvs_len, hl]
 have HL : Hid _ := hl;clear hl hw hp
 go_enter Tryz.func398, Tryz.ntmps398
 go_wp2_with fail
 refine (Di.has_at B G n vs gt pt b _ h true (Di.inB_yes h0 h1)).mono ?_;rintro e w' ⟨rfl, rfl⟩;go_wp2;go_ret;refine ⟨rfl, (H1.out).lay _ _ (by rw [HL.out]; omega), ((Upd.setCell B 2 _ _).p _ (Or.inl rfl)).trans ((Upd.setRow G _ _).p _ (Or.inr rfl))⟩
theorem disk_st {w : World} {B G n gt pt : Nat} {vs : List Int} (h : Di.DiskAt w B G n vs gt pt) : IsSt w B ∧ IsSt w G := ⟨⟨_, _, _, h.head, by decide⟩, ⟨_, _, _, h.row, by decide⟩⟩
theorem dsk_ok (lo B G : Nat) : SOk (dsk lo B G) where
 mget W := by show (method 622 40 (ptr B) "Get").run Tryz.prog W = .ok (396, ptr B) W; kernel_rfl
 mput W := by show (method 622 40 (ptr B) "Put").run Tryz.prog W = .ok (398, ptr B) W; kernel_rfl
 aput W := by show (nilAhead 622 40 (ptr B) "Put").run Tryz.prog W = .ok (some false) W; kernel_rfl
 cget args W := by show (callFunc 396 args).run Tryz.prog W = .ok (.enter 396 args) W; kernel_rfl
 cput args W := by show (callFunc 398 args).run Tryz.prog W = .ok (.enter 398 args) W; kernel_rfl
 nil W := by show (binOp BinOp.eql 94 (.iface 40 (ptr B)) .nilIface).run Tryz.prog W = .ok (.bool false) W; kernel_rfl
 keep := fun ⟨hP, h1, h2, gt, pt, hd, h3, h4⟩ hk => ⟨hP, h1, h2, gt, pt, hd.keep (hk _ (by rw [hP]; exact Or.inl rfl)) (hk _ (by rw [hP]; exact Or.inr rfl)), h3, h4⟩
 foot := fun ⟨hP, h1, h2, gt, pt, hd, h3, h4⟩ k hk => by
  rw [hP] at hk
  rcases hk with rfl | rfl
  ·exact ⟨h1, (disk_st hd).1⟩
  ·exact ⟨h2, (disk_st hd).2⟩
 len := fun ⟨_, _, _, _, _, hd, _⟩ => hd.len
 mono := fun ⟨hP, h1, h2, gt, pt, hd, h3, h4⟩ hm => ⟨hP, h1, h2, gt, pt, hd, by omega, by omega⟩
 low := fun ⟨_, h1, _, _, _, hd, _⟩ => by have := lt_of_heap hd.head; show lo ≤ _; omega
 get := fun {w P n vs m} ⟨hP, h1, h2, gt, pt, hd, h3, h4⟩ b hb hm => by
  have hg := Di.get_at B G n vs gt pt b w hd (by omega) (by omega) (by omega);simp only [Int.toNat_natCast] at hg;refine hg.mono ?_;rintro e w1 ⟨gg, rfl, hr, hd1, hu⟩;exact ⟨gg, 32, rfl, hr, P, ⟨hP, h1, h2, gt + 1, pt, hd1, by omega, by omega⟩, fun k hk => Or.inl hk, hu.p _ (by rw [hP]; exact Or.inl rfl)⟩
 put := fun {w P n vs m} ⟨hP, h1, h2, gt, pt, hd, h3, h4⟩ b hb hm p ws cap hp hl hw => by
  refine (dput_at hd b hb (by omega) p 0 ws cap (fun e => hp (by rw [e]; exact (disk_st hd).1)) hl (fun j x hx => by rw [Nat.zero_add]; exact hw j x hx)).mono ?_;rintro e w1 ⟨rfl, hd1, hu⟩;exact ⟨rfl, P, ⟨hP, h1, h2, gt, pt + 1, hd1, by omega, by omega⟩, fun k hk => Or.inl hk, by rw [hP]; exact hu⟩
end Go.Proofs.YtinaeifpoljfoaaGreatDoor
