/-
  Several texts in one: FdCount, FdSlot.
-/
import Derived.Test.YtdfnphgjjodfoaaGreatDoorG41
import Derived.Test.YtdfnphgjjodfoaaGreatDoorG43
import Derived.Test.YtdfnphgjjodfoaaGreatDoorG35
import Derived.Test.YtdfnphgjjodfoaaGreatDoorG33
import Derived.Test.YtdfnphgjjodfoaaGreatDoorG45
import Derived.Test.YtdfnphgjjodfoaaGreatDoorG37
import Derived.Test.YtdfnphgjjodfoaaGreatDoorG39
import Derived.Deep.RegionHeld3
/-
  Stage 11, find: as many words lead to slots as all objects have slots; the words of all cells, one cell behind the other. Numbers only.
-/
namespace Go.Proofs.YtdfnphgjjodfoaaGreatDoor.Fd
open Go.RowKit Go.Proofs.YtdfnphgjjodfoaaGreatDoor.Ar Go.Proofs.YtdfnphgjjodfoaaGreatDoor.Sp
open Go.Proofs.YtdfnphgjjodfoaaGreatDoor.Hd (Hd fitL wordI)
open Go.Proofs.YtdfnphgjjodfoaaGreatDoor.Tb (Ty)
open Go.Proofs.YtdfnphgjjodfoaaGreatDoor.Sh (wordR wordB)
set_option linter.unusedVariables false

/-- Word n is a slot's. -/
def slotW (sl : Cel → Int) (cs : List Cel) (n : Int) : Option (Int × Int) := match celW cs n with
  | some c => if c.h.tg = 1 ∧ 0 ≤ n - 2 * c.a - 1 ∧ n - 2 * c.a - 1 < sl c then some (c.a, n - 2 * c.a - 1) else none
  | none => none
theorem slotA_word (sl : Cel → Int) (cs : List Cel) (n : Int) (h0 : 0 ≤ n) (h1 : n < 65536) : slotA sl cs (1048576 + n) = slotW sl cs n := by
  have hb : wordB (1048576 + n) = true := decide_eq_true ⟨by omega, by omega⟩
  have hr : wordR (1048576 + n) = n := by unfold wordR; rw [if_pos ⟨by omega, by omega⟩]; omega
  unfold slotA slotW celA
  rw [if_pos hb, hr]
  cases celW cs n <;> rfl
/-- How many of a cell's slots lie ahead of word n. -/
def sl1 (sl : Cel → Int) (n : Int) (c : Cel) : Int := if c.h.tg = 1 then max 0 (min (sl c) (n - 2 * c.a - 1)) else 0
def slB (sl : Cel → Int) : List Cel → Int → Int
  | [], _ => 0
  | c :: cs, n => sl1 sl n c + slB sl cs n
def slAll (sl : Cel → Int) : List Cel → Int
  | [] => 0
  | c :: cs => (if c.h.tg = 1 then sl c else 0) + slAll sl cs
theorem slB_low {sl : Cel → Int} {n : Int} : ∀ {cs : List Cel}, (∀ c ∈ cs, n ≤ 2 * c.a + 1) → (∀ c ∈ cs, c.h.tg = 1 → 0 ≤ sl c) → slB sl cs n = 0
  | [], _, _ => rfl
  | c :: cs, h, hs => by
    have h1 := h c (by simp)
    have h2 := slB_low (cs := cs) (fun d hd => h d (List.mem_cons_of_mem _ hd)) fun d hd => hs d (List.mem_cons_of_mem _ hd)
    have h3 := hs c (by simp)
    show sl1 sl n c + slB sl cs n = 0
    rw [h2]
    unfold sl1
    split
    · have := h3 ‹_›
      omega
    · rfl
theorem slB_end {sl : Cel → Int} {ws : List Int} {l : List Ty} : ∀ {cs : List Cel} {f e : Int}, Tiled ws l f cs e → (∀ c ∈ cs, c.h.tg = 1 → 0 ≤ sl c ∧ 1 + sl c ≤ 2 * c.h.sz) → slB sl cs (2 * e) = slAll sl cs
  | [], _, _, _, _ => rfl
  | c :: cs, f, e, h, hs => by
    have h2 := slB_end (cs := cs) h.2.2.2.2 fun d hd => hs d (List.mem_cons_of_mem _ hd)
    have h3 := hs c (by simp)
    have h4 := (Tiled.mem h c (by simp)).2.1
    show sl1 sl (2 * e) c + slB sl cs (2 * e) = (if c.h.tg = 1 then sl c else 0) + slAll sl cs
    rw [h2]
    unfold sl1
    split
    · have := h3 ‹_›
      omega
    · rfl
theorem slB_step {sl : Cel → Int} {ws : List Int} {l : List Ty} {n : Int} : ∀ {cs : List Cel} {f e : Int}, Tiled ws l f cs e → (∀ c ∈ cs, c.h.tg = 1 → 0 ≤ sl c ∧ 1 + sl c ≤ 2 * c.h.sz) → slB sl cs (n + 1) = slB sl cs n + if (slotW sl cs n).isSome = true then 1 else 0
  | [], _, _, _, _ => rfl
  | c :: cs, f, e, h, hs => by
    have hr := fun d hd => hs d (List.mem_cons_of_mem c hd)
    have h2 := slB_step (n := n) (cs := cs) h.2.2.2.2 hr
    have h3 := hs c (by simp)
    have ha := h.1
    have hlo : ∀ d ∈ cs, c.a + c.h.sz ≤ d.a := fun d hd => by
      have := (Tiled.mem h.2.2.2.2 d hd).1
      omega
    show sl1 sl (n + 1) c + slB sl cs (n + 1) = sl1 sl n c + slB sl cs n + if (slotW sl (c :: cs) n).isSome = true then 1 else 0
    by_cases h5 : n < 2 * (c.a + c.h.sz)
    · rw [slB_low (n := n + 1) (fun d hd => by have := hlo d hd; omega) fun d hd ht => (hr d hd ht).1, slB_low (n := n) (fun d hd => by have := hlo d hd; omega) fun d hd ht => (hr d hd ht).1]
      by_cases h6 : 2 * c.a ≤ n
      · have hc : celW (c :: cs) n = some c := celW_at (A := []) h h6 h5
        unfold slotW sl1
        rw [hc]
        by_cases ht : c.h.tg = 1
        · have h7 := h3 ht
          simp only [ht, true_and, if_true]
          by_cases h8 : 0 ≤ n - 2 * c.a - 1 ∧ n - 2 * c.a - 1 < sl c
          · rw [if_pos h8]
            simp only [Option.isSome_some, if_true]
            omega
          · rw [if_neg h8]
            simp only [Option.isSome_none, Bool.false_eq_true, if_false]
            omega
        · simp [ht]
      · have hc : celW (c :: cs) n = none := celW_none h (.inl (by omega))
        unfold slotW sl1
        rw [hc]
        simp only [Option.isSome_none, Bool.false_eq_true, if_false]
        split
        · have h7 := h3 ‹_›
          omega
        · rfl
    · have hc : celW (c :: cs) n = celW cs n := by
        unfold celW
        rw [List.find?_cons_of_neg]
        intro hh
        exact h5 (of_decide_eq_true hh).2
      have hw : slotW sl (c :: cs) n = slotW sl cs n := by
        unfold slotW
        rw [hc]
      rw [hw, h2]
      have : sl1 sl (n + 1) c = sl1 sl n c := by
        unfold sl1
        split
        · have h7 := h3 ‹_›
          omega
        · rfl
      omega
/-- What all objects have in slots, ahead of and behind one cell. -/
theorem slAll_append (sl : Cel → Int) : ∀ (a b : List Cel), slAll sl (a ++ b) = slAll sl a + slAll sl b
  | [], b => by show slAll sl b = 0 + slAll sl b; omega
  | c :: a, b => by
    show (if c.h.tg = 1 then sl c else 0) + slAll sl (a ++ b) = ((if c.h.tg = 1 then sl c else 0) + slAll sl a) + slAll sl b
    rw [slAll_append sl a b]
    omega
end Go.Proofs.YtdfnphgjjodfoaaGreatDoor.Fd

/-
  Stage 11, find: the contract of Slot, of a space.
-/
namespace Go.Proofs.YtdfnphgjjodfoaaGreatDoor.Fd
open Go.RowKit Go.Proofs.YtdfnphgjjodfoaaGreatDoor.Ar Go.Proofs.YtdfnphgjjodfoaaGreatDoor.Sp Go.Shelf
open Go.Proofs.YtdfnphgjjodfoaaGreatDoor.Hd (Hd fitL wordI Fields)
open Go.Proofs.YtdfnphgjjodfoaaGreatDoor.Tb (Ty)
open Go.Proofs.YtdfnphgjjodfoaaGreatDoor.Sh (wordR wordB hdH ofE ofT ofS)
set_option linter.unusedVariables false

/-- How many slots the object that begins at a cell has. -/
def slC (ws : List Int) (l : List Ty) (c : Cel) : Int := ofS ws l c.a
section
variable {w : World} {s : Ids} {l : List Ty} {ws : List Int} {bs : List Bool} {cs : List Cel}
theorem slC_bound (hS : Spc w s l ws bs) (hT : Tiled ws l 0 cs (gran ws)) {c : Cel} (hc : c ∈ cs) (ht : c.h.tg = 1) : 0 ≤ slC ws l c ∧ 1 + slC ws l c ≤ 2 * c.h.sz := by
  obtain ⟨hE, hH⟩ := obj_of hT (Int.le_refl _) (Int.le_refl _) hc ht
  obtain ⟨f1, f2, f3, f4⟩ := facts_size hS.tab.all hE
  rw [hH] at f3
  unfold slC
  omega
/-- Of a cell's object, a view. -/
theorem view_ok (hF : Fields w) (hS : Spc w s l ws bs) (hT : Tiled ws l 0 cs (gran ws)) {c : Cel} (hc : c ∈ cs) (ht : c.h.tg = 1) :
    Calls Tryz.prog 20 #[.pointer (some ⟨s.ap, 0, none⟩), .pointer (some ⟨s.tp, 0, none⟩), .int .i64 c.a] w fun e y => ∃ v, e = .returned (.tuple #[.pointer (some ⟨v, 0, none⟩), .int .i64 0]) ∧ Sh.View y v s.ap c.a (hdH ws c.a) (ofT ws l c.a) (slC ws l c) ∧ Kept [] w y := by
  obtain ⟨m, a⟩ := hS.ar
  have hsh := hS.short
  have hb := hT.mem c hc
  have hg : gran ws ≤ 32768 := by unfold gran; omega
  obtain ⟨hE, hH⟩ := obj_of hT (Int.le_refl _) (Int.le_refl _) hc ht
  have hz := can_sz hb.2.2.1
  refine (Sh.of_ok hF a hS.wds hS.tab c.a (by omega) (by omega)).mono ?_
  rintro e y ⟨hk, ⟨h1, _⟩ | ⟨_, v, h2, h3, h4⟩⟩
  · exact absurd hE h1
  · exact ⟨v, h2, h4, hk⟩
end
def slR (sl : Cel → Int) (pre : List (Cel × Int)) : Option (Int × Int) := match pre with
  | [x] => if 0 ≤ x.2 - 1 ∧ x.2 - 1 < sl x.1 then some (x.1.a, x.2 - 1) else none
  | _ => none
theorem slR_slotA (sl : Cel → Int) (cs : List Cel) (u : Int) : slR sl (obF (fou1 cs u)) = slotA sl cs u := by
  unfold fou1 slotA
  cases hc : celA cs u with
  | none => rfl
  | some c =>
    by_cases ht : c.h.tg = 1
    · simp [obF, ht, slR]
    · simp [obF, ht, slR]
/-- What the closure leaves in its three boxes. -/
def SlTo (z : World) (b4 b5 b6 : Nat) (a k sl x4 x5 : Int) (x6 : Bool) : Prop :=
  if 0 ≤ k - 1 ∧ k - 1 < sl then Has z b4 3 [.int .i64 a] ∧ Has z b5 3 [.int .i64 (k - 1)] ∧ Has z b6 4 [.bool true] else Has z b4 3 [.int .i64 x4] ∧ Has z b5 3 [.int .i64 x5] ∧ Has z b6 4 [.bool x6]
section
variable {X : World} {s : Ids} {l : List Ty} {ws : List Int} {bs : List Bool} {cs : List Cel}
set_option maxRecDepth 100000 in
set_option maxHeartbeats 8000000 in
theorem cl_slot (hF : Fields X) (hS : Spc X s l ws bs) (hT : Tiled ws l 0 cs (gran ws)) {c : Cel} (hc : c ∈ cs) (ht : c.h.tg = 1) {b2 b4 b5 b6 : Nat} (k : Int) (k0 : 0 ≤ k) (k1 : k ≤ 4000000) {x4 x5 : Int} {x6 : Bool}
    (h2 : Has X b2 28 [.pointer (some ⟨s.sp, 0, none⟩)]) (h4 : Has X b4 3 [.int .i64 x4]) (h5 : Has X b5 3 [.int .i64 x5]) (h6 : Has X b6 4 [.bool x6]) (hn : b4 ≠ b5) :
    Calls Tryz.prog 35 #[c.val, .int .i64 k, .pointer (some ⟨b2, 0, none⟩), .pointer (some ⟨b4, 0, none⟩), .pointer (some ⟨b5, 0, none⟩), .pointer (some ⟨b6, 0, none⟩)] X fun e z => e = .returned (.tuple #[]) ∧
      SlTo z b4 b5 b6 c.a k (slC ws l c) x4 x5 x6 ∧ Kept [b4, b5, b6] X z := by
  have hn46 : b4 ≠ b6 := Has.block_type h4 h6 (by decide)
  have hn56 : b5 ≠ b6 := Has.block_type h5 h6 (by decide)
  have hx := Has.new X 37 [.int .i64 c.a, .int .u8 c.h.tg, .int .i64 c.h.ty, .int .i64 c.h.ln, .int .i64 c.h.sz]
  have ka := (Kept.refl [] X).alloc (.cells #[.int .i64 c.a, .int .u8 c.h.tg, .int .i64 c.h.ty, .int .i64 c.h.ln, .int .i64 c.h.sz] 37)
  have HB : Hid (∀ y, Kept [] (X.alloc (.cells #[.int .i64 c.a, .int .u8 c.h.tg, .int .i64 c.h.ty, .int .i64 c.h.ln, .int .i64 c.h.sz] 37)) y → y.cell? ⟨b2, 0, none⟩ = some (.pointer (some ⟨s.sp, 0, none⟩)) ∧ y.cell? ⟨X.heap.size, 0, none⟩ = some (.int .i64 c.a)) := Lib.hid fun y k => ⟨((h2.keep0 ka).keep0 k).cell 0, (hx.keep0 k).cell 0⟩
  have CA : Hid (∀ y, Kept [] (X.alloc (.cells #[.int .i64 c.a, .int .u8 c.h.tg, .int .i64 c.h.ty, .int .i64 c.h.ln, .int .i64 c.h.sz] 37)) y → Calls Tryz.prog 21 #[.pointer (some ⟨s.sp, 0, none⟩)] y fun e z => e = .returned (.pointer (some ⟨s.ap, 0, none⟩)) ∧ y = z) := Lib.hid fun y k => arena_ok (hS.keep0 (ka.trans k))
  have CT : Hid (∀ y, Kept [] (X.alloc (.cells #[.int .i64 c.a, .int .u8 c.h.tg, .int .i64 c.h.ty, .int .i64 c.h.ln, .int .i64 c.h.sz] 37)) y → Calls Tryz.prog 22 #[.pointer (some ⟨s.sp, 0, none⟩)] y fun e z => e = .returned (.pointer (some ⟨s.tp, 0, none⟩)) ∧ y = z) := Lib.hid fun y k => table_ok (hS.keep0 (ka.trans k))
  have CO : Hid (∀ y, Kept [] (X.alloc (.cells #[.int .i64 c.a, .int .u8 c.h.tg, .int .i64 c.h.ty, .int .i64 c.h.ln, .int .i64 c.h.sz] 37)) y → Calls Tryz.prog 20 #[.pointer (some ⟨s.ap, 0, none⟩), .pointer (some ⟨s.tp, 0, none⟩), .int .i64 c.a] y fun e z => ∃ v, e = .returned (.tuple #[.pointer (some ⟨v, 0, none⟩), .int .i64 0]) ∧ Hid ((∃ g hd t, Sh.View z v s.ap g hd t (slC ws l c)) ∧ Kept [] (X.alloc (.cells #[.int .i64 c.a, .int .u8 c.h.tg, .int .i64 c.h.ty, .int .i64 c.h.ln, .int .i64 c.h.sz] 37)) z) ∧ z.cell? ⟨b2, 0, none⟩ = some (.pointer (some ⟨s.sp, 0, none⟩)) ∧ z.cell? ⟨X.heap.size, 0, none⟩ = some (.int .i64 c.a)) := Lib.hid fun y k => (view_ok (hF.keep0 (ka.trans k)) (hS.keep0 (ka.trans k)) hT hc ht).mono fun e z ⟨v, e1, e2, e3⟩ => ⟨v, e1, Lib.hid ⟨⟨_, _, _, e2⟩, k.trans e3⟩, HB.out z (k.trans e3)⟩
  have H4 := Lib.hid (h4.keep0 ka)
  have H5 := Lib.hid (h5.keep0 ka)
  have H6 := Lib.hid (h6.keep0 ka)
  have KA := Lib.hid ka
  obtain ⟨d0, d1⟩ := HB.out _ (Kept.refl _ _)
  clear hx ka h2 h4 h5 h6 hF hS hT hc ht HB
  generalize slC ws l c = sl at *
  obtain ⟨ca, ⟨ct, cy, cl, cz⟩⟩ := c
  unfold Cel.val
  simp only at *
  generalize hX1 : X.alloc (.cells #[.int .i64 ca, .int .u8 ct, .int .i64 cy, .int .i64 cl, .int .i64 cz] 37) = X1 at *
  generalize hxb : X.heap.size = xb at *
  generalize s.sp = sp at *
  generalize s.ap = ap at *
  generalize s.tp = tp at *
  go_enter Tryz.func35, Tryz.ntmps35
  go_wp2_with fail
  clear hX1 hxb
  go_region_held3 (fun y => y.cell? ⟨b2, 0, none⟩ = some (.pointer (some ⟨sp, 0, none⟩)) ∧ y.cell? ⟨xb, 0, none⟩ = some (.int .i64 ca)) (go_keep)
    (first
      | (go_at_call 21; refine (CA.out _ ?_).mono ?_; (first | exact Kept.refl _ _ | exact (Kept.refl _ _).drewN _ | exact (Kept.refl _ _).drew); rintro e z1 ⟨rfl, rfl⟩)
      | (go_at_call 22; refine (CT.out _ ?_).mono ?_; (first | exact Kept.refl _ _ | exact (Kept.refl _ _).drewN _ | exact (Kept.refl _ _).drew); rintro e z1 ⟨rfl, rfl⟩)
      | (go_at_call 20; refine (CO.out _ ?_).mono ?_; (first | exact Kept.refl _ _ | exact (Kept.refl _ _).drewN _ | exact (Kept.refl _ _).drew); rintro e z2 ⟨v, rfl, hz2, r0, r1⟩))
  all_goals
    have kz := hz2.out.2
    obtain ⟨⟨g9, hd9, t9, hv⟩, _⟩ := hz2.out
    have HSl := Lib.hid (Sh.slots_ok hv)
    have g4 := H4.out.keep0 kz
    have g5 := H5.out.keep0 kz
    have g6 := H6.out.keep0 kz
    have s4 := g4.cell 0
    have s5 := g5.cell 0
    have s6 := g6.cell 0
    have f4 := g4.free 0
    have f5 := g5.free 0
    have f6 := g6.free 0
    simp at s4 s5 s6
    have G4 := Lib.hid g4
    have G5 := Lib.hid g5
    have G6 := Lib.hid g6
    have KZ := Lib.hid (KA.out.trans kz)
    have hw : IntKind.i64.wrap (k - 1) = k - 1 := by rw [IntKind.wrap_i64]; omega
    clear hz2 kz hv g4 g5 g6 H4 H5 H6 KA CA CT CO d0 d1
    by_cases hk0 : 0 ≤ k - 1
    · by_cases hks : k - 1 < sl
      · go_wp2_with fail
        refine HSl.out.mono ?_
        rintro e y ⟨rfl, rfl⟩
        go_wp2_with fail
        go_end0
        refine ⟨rfl, ?_, (((KZ.out.none _).setCell _ _ (.inl (by simp))).setCell _ _ (.inl (by simp))).setCell _ _ (.inl (by simp))⟩
        unfold SlTo
        rw [if_pos ⟨hk0, hks⟩]
        exact ⟨((G4.out.put 0 _).beside _ hn _).beside _ hn46 _, ((G5.out.beside _ (Ne.symm hn) _).put 0 _).beside _ hn56 _, ((G6.out.beside _ (Ne.symm hn46) _).beside _ (Ne.symm hn56) _).put 0 _⟩
      · go_wp2_with fail
        refine HSl.out.mono ?_
        rintro e y ⟨rfl, rfl⟩
        go_wp2_with fail
        go_end0
        refine ⟨rfl, ?_, KZ.out.none _⟩
        unfold SlTo
        rw [if_neg (by omega)]
        exact ⟨G4.out, G5.out, G6.out⟩
    · go_wp2_with fail
      go_end0
      refine ⟨rfl, ?_, KZ.out.none _⟩
      unfold SlTo
      rw [if_neg (by omega)]
      exact ⟨G4.out, G5.out, G6.out⟩
end
section
variable {w : World} {s : Ids} {l : List Ty} {ws : List Int} {bs : List Bool} {cs : List Cel}
set_option maxRecDepth 100000 in
set_option maxHeartbeats 8000000 in
theorem fslot_ok (hF : Fields w) (hS : Spc w s l ws bs) (hT : Tiled ws l 0 cs (gran ws)) (u : Int) (u0 : 0 ≤ u) (u1 : u < 18446744073709551616) :
    Calls Tryz.prog 14 #[.pointer (some ⟨s.sp, 0, none⟩), .int .u64 u] w fun e y => e = .returned (.tuple #[.int .i64 ((slotA (slC ws l) cs u).getD (0, 0)).1, .int .i64 ((slotA (slC ws l) cs u).getD (0, 0)).2, .bool (slotA (slC ws l) cs u).isSome]) ∧ Kept [] w y := by
  have hg : gran ws ≤ 32768 := by have := hS.short; unfold gran; omega
  obtain ⟨w4, hw4⟩ : ∃ w4, ((((w.alloc (.cells #[.pointer (some ⟨s.sp, 0, none⟩)] 28)).alloc (.cells #[.int .i64 0] 3)).alloc (.cells #[.int .i64 0] 3)).alloc (.cells #[.bool false] 4)).alloc (.cells #[.int .u64 u] 24) = w4 := ⟨_, rfl⟩
  have k4 : Kept [] w w4 := by rw [← hw4]; exact (((((Kept.refl [] w).alloc _).alloc _).alloc _).alloc _).alloc _
  have r2 : Has w4 w.heap.size 28 [.pointer (some ⟨s.sp, 0, none⟩)] := by rw [← hw4]; exact ((((has_at (w := w) 28 [.pointer (some ⟨s.sp, 0, none⟩)] rfl).alloc _).alloc _).alloc _).alloc _
  have r4 : Has w4 (w.heap.size + 1) 3 [.int .i64 0] := by rw [← hw4]; exact (((has_at 3 [.int .i64 0] (by rw [World.size_alloc])).alloc _).alloc _).alloc _
  have r5 : Has w4 (w.heap.size + 1 + 1) 3 [.int .i64 0] := by rw [← hw4]; exact ((has_at 3 [.int .i64 0] (by rw [World.size_alloc, World.size_alloc])).alloc _).alloc _
  have r6 : Has w4 (w.heap.size + 1 + 1 + 1) 4 [.bool false] := by rw [← hw4]; exact (has_at 4 [.bool false] (by rw [World.size_alloc, World.size_alloc, World.size_alloc])).alloc _
  have r8 : Has w4 (w.heap.size + 1 + 1 + 1 + 1) 24 [.int .u64 u] := by rw [← hw4]; exact has_at 24 [.int .u64 u] (by rw [World.size_alloc, World.size_alloc, World.size_alloc, World.size_alloc])
  have HF : Hid (Calls Tryz.prog 33 #[.pointer (some ⟨s.sp, 0, none⟩), .func (.func 35) #[] #[.pointer (some ⟨w.heap.size, 0, none⟩), .pointer (some ⟨w.heap.size + 1, 0, none⟩), .pointer (some ⟨w.heap.size + 1 + 1, 0, none⟩), .pointer (some ⟨w.heap.size + 1 + 1 + 1, 0, none⟩)], .slice (some ⟨w.heap.size + 1 + 1 + 1 + 1, 0, none⟩) 1 1] w4 fun e y => e = .returned (.tuple #[]) ∧ Has y (w.heap.size + 1) 3 [.int .i64 ((slotA (slC ws l) cs u).getD (0, 0)).1] ∧ Has y (w.heap.size + 1 + 1) 3 [.int .i64 ((slotA (slC ws l) cs u).getD (0, 0)).2] ∧ Has y (w.heap.size + 1 + 1 + 1) 4 [.bool (slotA (slC ws l) cs u).isSome] ∧ Kept [] w y) := Lib.hid (by
    refine (objects_ok (cap := 1) hT hg (fun x k => allCells_ok (hF.keep0 (k4.trans k)) (hS.keep0 (k4.trans k)) cs (hT.scans (Int.le_refl _))) 35 #[.pointer (some ⟨w.heap.size, 0, none⟩), .pointer (some ⟨w.heap.size + 1, 0, none⟩), .pointer (some ⟨w.heap.size + 1 + 1, 0, none⟩), .pointer (some ⟨w.heap.size + 1 + 1 + 1, 0, none⟩)] (enters_of Tryz.func35 (by kernel_rfl) rfl) [w.heap.size + 1, w.heap.size + 1 + 1, w.heap.size + 1 + 1 + 1] [u] (rw_one r8) (fun x hx => by rw [List.mem_singleton.1 hx]; exact ⟨u0, u1⟩) (by simp)
      (fun b hb => by
        rcases List.mem_cons.1 hb with rfl | hb
        · exact ⟨_, _, r4, by decide⟩
        · rcases List.mem_cons.1 hb with rfl | hb
          · exact ⟨_, _, r5, by decide⟩
          · rw [List.mem_singleton.1 hb]; exact ⟨_, _, r6, by decide⟩)
      (fun pre X => Has X (w.heap.size + 1) 3 [.int .i64 ((slR (slC ws l) pre).getD (0, 0)).1] ∧ Has X (w.heap.size + 1 + 1) 3 [.int .i64 ((slR (slC ws l) pre).getD (0, 0)).2] ∧ Has X (w.heap.size + 1 + 1 + 1) 4 [.bool (slR (slC ws l) pre).isSome] ∧ Has X w.heap.size 28 [.pointer (some ⟨s.sp, 0, none⟩)] ∧ Kept [] w X)
      (fun pre X Y ⟨a, b, c, d, g⟩ k => ⟨a.keep0 k, b.keep0 k, c.keep0 k, d.keep0 k, g.trans k⟩) ⟨r4, r5, r6, r2, k4⟩
      (fun pre c k X hc ht k0 k1 hp ⟨a, b, c', d, g⟩ => ?_)).mono ?_
    · obtain rfl : pre = [] := List.eq_nil_of_length_eq_zero (by simpa using hp)
      have hcb := bounds_of hT hg c hc
      refine (cl_slot (hF.keep0 g) (hS.keep0 g) hT hc ht k k0 (by omega) d a b c' (by omega)).mono fun e z ⟨h1, h2, h3⟩ => ⟨h1, ⟨?_, ?_, ?_, d.kept h3 (by simp <;> omega), g.forget h3 (fun i hi => by simp at hi; omega)⟩, Kpi.boxes h3⟩
      all_goals
        show Has z _ _ [_]
        unfold SlTo at h2
        unfold slR
        simp only [List.nil_append]
        by_cases hh : 0 ≤ k - 1 ∧ k - 1 < slC ws l c
        · rw [if_pos hh] at h2
          rw [if_pos hh]
          first | exact h2.1 | exact h2.2.1 | exact h2.2.2
        · rw [if_neg hh] at h2
          rw [if_neg hh]
          first | exact h2.1 | exact h2.2.1 | exact h2.2.2
    · rintro e y ⟨h1, ⟨a, b, c, d, g⟩, _⟩
      rw [fou_one, slR_slotA] at a b c
      exact ⟨h1, a, b, c, g⟩)
  clear r2 r4 r5 r6 r8 k4 hT hF hS
  generalize (slotA (slC ws l) cs u).isSome = bo at *
  generalize ((slotA (slC ws l) cs u).getD (0, 0)).1 = x at *
  generalize ((slotA (slC ws l) cs u).getD (0, 0)).2 = x2 at *
  generalize s.sp = sp at *
  go_enter Tryz.func14, Tryz.ntmps14
  go_wp2_with fail
  clear hw4
  have hn1 : w.heap.size + 1 + 1 ≠ w.heap.size + 1 := by omega
  have hm1 : w.heap.size + 1 ≠ w.heap.size + 1 + 1 := by omega
  generalize w.heap.size + 1 + 1 + 1 + 1 = q8 at *
  generalize hq6 : w.heap.size + 1 + 1 + 1 = q6 at *
  generalize hq5 : w.heap.size + 1 + 1 = q5 at *
  generalize hq4 : w.heap.size + 1 = q4 at *
  have L4 : Hid (w.heap.size ≤ q4) := Lib.hid (by omega)
  have L5 : Hid (w.heap.size ≤ q5) := Lib.hid (by omega)
  have L6 : Hid (w.heap.size ≤ q6) := Lib.hid (by omega)
  clear hq4 hq5 hq6
  refine HF.out.mono ?_
  rintro e y ⟨rfl, h4, h5, h6, k⟩
  have n46 := Has.block_type h4 h6 (by decide)
  have n56 := Has.block_type h5 h6 (by decide)
  have m46 := Ne.symm n46
  have m56 := Ne.symm n56
  have s4 := h4.cell 0
  have s5 := h5.cell 0
  have s6 := h6.cell 0
  simp at s4 s5 s6
  have f4 := h4.free 0
  have f5 := h5.free 0
  have f6 := h6.free 0
  have R4 := Lib.hid h4
  have R5 := Lib.hid h5
  have R6 := Lib.hid h6
  have K4 := Lib.hid k
  clear h4 h5 h6 k HF
  go_wp2_with fail
  go_region
  all_goals
    go_wp2_with fail
    exact ret_vars3 rfl rfl rfl rfl (((R4.out.put 0 _).beside _ hm1 _).beside _ n46 _).drew (((R5.out.beside _ hn1 _).put 0 _).beside _ n56 _).drew (((R6.out.beside _ m46 _).beside _ m56 _).put 0 _).drew Tryz.isAgg3 Tryz.isAgg3 Tryz.isAgg4 rfl ⟨rfl, (((K4.out.setCell _ _ (.inr L4.out)).setCell _ _ (.inr L5.out)).setCell _ _ (.inr L6.out)).drew⟩
end
end Go.Proofs.YtdfnphgjjodfoaaGreatDoor.Fd
