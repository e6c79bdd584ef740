/-
  Several texts in one: BtNew, SpEnds, SpKeep, SpDocMath.
-/
import Derived.Test.YtoagghileebokaaGreatDoorG14
import Derived.Test.YtoagghileebokaaGreatDoorG23
import Derived.Test.YtoagghileebokaaGreatDoorG15
import Derived.Test.YtoagghileebokaaGreatDoorG12
/-
  A new vector: all of its bits are clear.
-/
namespace Go.Proofs.YtoagghileebokaaGreatDoor.Bt
open Go.RowKit Go.Proofs.YtoagghileebokaaGreatDoor.Ar Go.Proofs.YtoagghileebokaaGreatDoor.Wd
set_option linter.unusedVariables false

theorem zeroMeans (n : Nat) : Means (List.replicate n false) (List.replicate 1024 0) := fun i hi => by
  rw [List.length_replicate] at hi
  have h1 : bit (List.replicate n false) i = false := by
    unfold bit
    rw [List.getD, List.getElem?_replicate]
    split <;> rfl
  have h2 : (List.replicate 1024 (0 : Int)).getD (i / 64) 0 = 0 := by
    rw [List.getD, List.getElem?_replicate]
    split <;> rfl
  rw [h1, h2]
  exact (Nat.zero_testBit _).symm
theorem newBv_ok (n : Nat) (hn : n ≤ 65536) (w : World) :
    Calls Tryz.prog 43 #[.int .i64 n] w fun e w' => e = .returned (.tuple #[.pointer (some ⟨w.heap.size + 1, 0, none⟩), .int .i64 0]) ∧ Bv w' (w.heap.size + 1) w.heap.size (List.replicate n false) ∧ Kept [] w w' :=
  (new_ok n hn w).mono fun _ _ ⟨he, hv, hk⟩ => ⟨he, ⟨_, by rw [List.length_replicate]; exact hv, zeroMeans n⟩, hk⟩
end Go.Proofs.YtoagghileebokaaGreatDoor.Bt

/-
  The contracts of prevEnd, nextStart, and bare.
-/
namespace Go.Proofs.YtoagghileebokaaGreatDoor.Sp
open Go.RowKit Go.Proofs.YtoagghileebokaaGreatDoor.Ar Go.Proofs.YtoagghileebokaaGreatDoor.Sh
open Go.Proofs.YtoagghileebokaaGreatDoor.Hd (Hd Fields cells4 free4 isHead isHead_iff decH)
open Go.Proofs.YtoagghileebokaaGreatDoor.Tb (Ty Tab blk cells3)
open Go.Proofs.YtoagghileebokaaGreatDoor.Bt (Bv atI prevO nextO prev_ok next_ok newBv_ok)
open Go.Proofs.YtoagghileebokaaGreatDoor.Wd (Table)
set_option linter.unusedVariables false

theorem hdH_sz (ws : List Int) (g : Int) : 0 ≤ (hdH ws g).sz ∧ (hdH ws g).sz ≤ 16777215 := by
  unfold hdH
  split
  · unfold decH
    split
    · rename_i h
      have := can_sz (isHead_iff.1 h).1
      omega
    · decide
  · decide
def prevEndV (bs : List Bool) (ws : List Int) (g : Int) : Int := if (prevO bs (g - 1)).isSome then atI (prevO bs (g - 1)) + (hdH ws (atI (prevO bs (g - 1)))).sz else 0
def nextStartV (bs : List Bool) (ws : List Int) (g : Int) : Int := if (nextO bs (g + 1) true).isSome then atI (nextO bs (g + 1) true) else gran ws
section
variable {w : World} {s : Ids} {l : List Ty} {ws : List Int} {bs : List Bool}
set_option maxRecDepth 100000 in
set_option maxHeartbeats 1000000 in
theorem prevEnd_ok (hG : Glob w s) (h : Spc w s l ws bs) (g : Int) (g0 : -1000000000000 ≤ g) (g1 : g ≤ 1000000000000) :
    Calls Tryz.prog 110 #[.pointer (some ⟨s.sp, 0, none⟩), .int .i64 g] w fun e w' => e = .returned (.int .i64 (prevEndV bs ws g)) ∧ Kept [] w w' := by
  obtain ⟨m, ha⟩ := h.ar
  obtain ⟨c0, c1, c2⟩ := h.cells
  have hb := prevO_bound bs (g - 1)
  have hfew := h.few
  have HP := Lib.hid (prev_ok bs _ _ w h.bv (g - 1) (by omega) (by omega))
  have HH := Lib.hid (fun y (k : Kept [] w y) (a : Int) (a0 : 0 ≤ a) (a1 : a ≤ 65536) => head_any (hG.f.keep0 k) (ha.keep0 k) h.wds a (by omega) (by omega))
  have HSp := Lib.hid (fun y (k : Kept [] w y) => (h.keep0 k).cells)
  have HSz := Lib.hid (hdH_sz ws)
  unfold prevEndV
  generalize prevO bs (g - 1) = o at *
  clear h ha hG
  cases hs : o.isSome with
  | false =>
    rw [hs] at HP
    generalize atI o = a at *
    rw [if_neg (by decide)]
    go_enter Tryz.func110, Tryz.ntmps110
    go_wp2_with fail
    refine HP.out.mono ?_
    rintro e w1 ⟨rfl, hk⟩
    have HK := Lib.hid hk
    clear hk HP
    go_wp2_with fail
    go_ret
    exact ⟨rfl, HK.out⟩
  | true =>
    rw [hs] at HP
    rw [if_pos rfl]
    generalize atI o = a at *
    have HHa := Lib.hid (fun y (k : Kept [] w y) => HH.out y k a hb.1 (by omega))
    have hz := HSz.out a
    clear HH HSz
    unfold Hd.val at HHa
    generalize hdE ws a = er at *
    generalize hdH ws a = x at *
    have HN : Hid (∀ y : World, Has (y.alloc (.cells #[.int .u8 x.tg, .int .i64 x.ty, .int .i64 x.ln, .int .i64 x.sz] 49)) y.heap.size 49 [.int .u8 x.tg, .int .i64 x.ty, .int .i64 x.ln, .int .i64 x.sz]) := Lib.hid fun y => Hd.Hd.new y _
    generalize x.tg = xg at *
    generalize x.ty = xt at *
    generalize x.ln = xn at *
    generalize x.sz = xs at *
    go_enter Tryz.func110, Tryz.ntmps110
    go_wp2_with fail
    refine HP.out.mono ?_
    rintro e w1 ⟨rfl, hk⟩
    have HK := Lib.hid hk
    clear c0 c1 c2
    obtain ⟨c0, c1, c2⟩ := HSp.out _ hk
    clear hk HP
    go_wp2_with fail
    refine (HHa.out _ HK.out).mono ?_
    rintro e w2 ⟨rfl, hk2⟩
    have HK2 := Lib.hid ((HK.out.trans hk2).alloc (.cells #[.int .u8 xg, .int .i64 xt, .int .i64 xn, .int .i64 xs] 49))
    obtain ⟨d0, d1, d2, d3⟩ := cells4 (HN.out w2)
    clear hk2 HHa HK c0 c1 c2 HN
    go_wp2_with fail
    go_ret
    exact ⟨rfl, HK2.out⟩
set_option maxRecDepth 100000 in
set_option maxHeartbeats 1000000 in
theorem nextStart_ok (hG : Glob w s) (h : Spc w s l ws bs) (g : Int) (g0 : -1000000000000 ≤ g) (g1 : g ≤ 1000000000000) :
    Calls Tryz.prog 111 #[.pointer (some ⟨s.sp, 0, none⟩), .int .i64 g] w fun e w' => e = .returned (.int .i64 (nextStartV bs ws g)) ∧ Kept [] w w' := by
  obtain ⟨c0, c1, c2⟩ := h.cells
  have HP := Lib.hid (next_ok bs _ _ w h.bv hG.t (g + 1) (by omega) (by omega))
  have HGr := Lib.hid (fun y (k : Kept [] w y) => granules_ok (h.keep0 k))
  unfold nextStartV
  generalize nextO bs (g + 1) true = o at *
  clear h hG
  cases hs : o.isSome with
  | true =>
    rw [hs] at HP
    generalize atI o = a at *
    rw [if_pos rfl]
    go_enter Tryz.func111, Tryz.ntmps111
    go_wp2_with fail
    refine HP.out.mono ?_
    rintro e w1 ⟨rfl, hk⟩
    have HK := Lib.hid hk
    clear hk HP
    go_wp2_with fail
    go_ret
    exact ⟨rfl, HK.out⟩
  | false =>
    rw [hs] at HP
    rw [if_neg (by decide)]
    generalize atI o = a at *
    generalize gran ws = G at *
    go_enter Tryz.func111, Tryz.ntmps111
    go_wp2_with fail
    refine HP.out.mono ?_
    rintro e w1 ⟨rfl, hk⟩
    have HK := Lib.hid hk
    clear hk HP
    go_wp2_with fail
    refine (HGr.out _ HK.out).mono ?_
    rintro e w2 ⟨rfl, rfl⟩
    go_wp2_with fail
    go_ret
    exact ⟨rfl, HK.out⟩
end
theorem arena_pre {w : World} {sp : Nat} {a : Option Addr} (c0 : w.cell? ⟨sp, 0, none⟩ = some (.pointer a)) : Calls Tryz.prog 71 #[.pointer (some ⟨sp, 0, none⟩)] w fun e w' => e = .returned (.pointer a) ∧ w = w' := by
  go_enter Tryz.func71, Tryz.ntmps71
  go_wp2_with fail
  go_ret
  exact ⟨rfl, rfl⟩
set_option maxRecDepth 100000 in
theorem granules_pre {w : World} {sp ap aq : Nat} {ws : List Int} {m : Int} (c0 : w.cell? ⟨sp, 0, none⟩ = some (.pointer (some ⟨ap, 0, none⟩))) (a : Arena w ap aq ws m) : Calls Tryz.prog 42 #[.pointer (some ⟨sp, 0, none⟩)] w fun e w' => e = .returned (.int .i64 (gran ws)) ∧ w = w' := by
  have hs := a.short
  have H1 := Lib.hid (arena_pre c0)
  have H2 := Lib.hid (len_any a)
  have ed : (ws.length : Int).tdiv 2 = gran ws := Int.tdiv_eq_ediv_of_nonneg (by omega)
  have ED := Lib.hid ed
  clear a ed c0
  generalize ws.length = L at *
  generalize gran ws = G at *
  go_enter Tryz.func42, Tryz.ntmps42
  go_wp2_with fail
  refine H1.out.mono ?_
  rintro e w1 ⟨rfl, rfl⟩
  go_wp2_with fail
  refine H2.out.mono ?_
  rintro e w1 ⟨rfl, rfl⟩
  go_wp2_with fail
  go_ret
  exact ⟨ret_int (by have := ED.out; rw [Int.tdiv_eq_ediv_of_nonneg (by omega)] at this; omega), rfl⟩
set_option maxRecDepth 100000 in
set_option maxHeartbeats 1000000 in
theorem bare_ok {w : World} {ap aq tp : Nat} {A : Option Addr} {c : Nat} {l : List Ty} {ws : List Int} {m : Int} (ha : Arena w ap aq ws m) (hT : Tab w tp A c l) (hW : Wm ws) :
    Calls Tryz.prog 40 #[.pointer (some ⟨ap, 0, none⟩), .pointer (some ⟨tp, 0, none⟩)] w fun e w' => ∃ sp bp bq, e = .returned (.pointer (some ⟨sp, 0, none⟩)) ∧ Spc w' ⟨sp, ap, aq, tp, A, c, bp, bq, 0⟩ l ws (List.replicate (gran ws).toNat false) ∧ Kept [] w w' ∧ w.heap.size ≤ bq := by
  have hs := ha.short
  have hgr : 0 ≤ gran ws ∧ gran ws ≤ 32768 := by unfold gran; omega
  have k0 : Kept [] w (w.alloc (.cells #[.pointer (some ⟨ap, 0, none⟩), .pointer (some ⟨tp, 0, none⟩), .pointer none] 72)) := (Kept.refl [] w).alloc _
  have hb := Has.new w 72 [.pointer (some ⟨ap, 0, none⟩), .pointer (some ⟨tp, 0, none⟩), .pointer none]
  have HGr := Lib.hid (granules_pre (hb.cell 0) (ha.keep0 k0))
  have HN := Lib.hid (fun y => newBv_ok (gran ws).toNat (by omega) y)
  rw [Int.toNat_of_nonneg hgr.1] at HN
  have HB := Lib.hid hb
  have K0 := Lib.hid k0
  have HA := Lib.hid ha
  have HT := Lib.hid hT
  have HW := Lib.hid hW
  clear ha hT hW hb k0
  obtain ⟨n, hn⟩ : ∃ n, n = (gran ws).toNat := ⟨_, rfl⟩
  rw [← hn] at HN ⊢
  clear hn
  generalize gran ws = G at *
  go_enter Tryz.func40, Tryz.ntmps40
  go_wp2_with fail
  refine HGr.out.mono ?_
  rintro e w1 ⟨rfl, rfl⟩
  go_wp2_with fail
  refine (HN.out _).mono ?_
  rintro e w1 ⟨rfl, hv, hk⟩
  have hb1 := HB.out.keep0 hk
  have f2 := hb1.free 2
  obtain ⟨c0, c1, c2⟩ := cells3 hb1
  have HV := Lib.hid hv
  have HK := Lib.hid hk
  have HB1 := Lib.hid hb1
  clear hv hk hb1
  go_wp2_with fail
  go_ret
  have hsz : (w.alloc (.cells #[.pointer (some ⟨ap, 0, none⟩), .pointer (some ⟨tp, 0, none⟩), .pointer none] 72)).heap.size = w.heap.size + 1 := by simp
  have hkk : Kept [w.heap.size] w1 (w1.setCell ⟨w.heap.size, 2, none⟩ (.pointer (some ⟨w.heap.size + 1 + 1, 0, none⟩))) := (Kept.refl _ w1).setCell _ _ (.inl (by simp))
  have hk0 := K0.out.trans HK.out
  have hV := HV.out
  rw [hsz] at hV
  refine ⟨w.heap.size, w.heap.size + 1 + 1, w.heap.size + 1, rfl, ⟨HB1.out.put 2 _, ⟨m, (HA.out.keep0 hk0).kept hkk ?_ ?_⟩, (HT.out.keep0 hk0).kept hkk ?_ ?_, hV.kept hkk (by simp; omega) (by simp), HW.out⟩, hk0.forget hkk (by simp), by simp⟩
  · have := HA.out.head.lt; simp; omega
  · have := HA.out.row.lt; simp; omega
  · have := HT.out.head.lt; simp; omega
  · intro g hg
    rw [List.mem_singleton.1 hg]
    exact Tb.Own.block_type (HT.out.keep0 hk0).own HB1.out (by decide)
end Go.Proofs.YtoagghileebokaaGreatDoor.Sp

/-
  What a space is, in numbers: cells one behind the other, starts that tell its objects; and that laying objects anew in a range of cells keeps it so.
-/
namespace Go.Proofs.YtoagghileebokaaGreatDoor.Sp
open Go.RowKit Go.Proofs.YtoagghileebokaaGreatDoor.Ar Go.Proofs.YtoagghileebokaaGreatDoor.Sh
open Go.Proofs.YtoagghileebokaaGreatDoor.Hd (Hd fitL wordI ofL of_facts can_obj encW_yes encW)
open Go.Proofs.YtoagghileebokaaGreatDoor.Tb (Ty sizeE)
open Go.Proofs.YtoagghileebokaaGreatDoor.Bt (bit atI prevO nextO hasV)
set_option linter.unusedVariables false

structure Snd (ws : List Int) (l : List Ty) (bs : List Bool) (cs : List Cel) : Prop where
  tiled : Tiled ws l 0 cs (gran ws)
  agree : Agree bs (objs cs)
  len : (bs.length : Int) = gran ws
  neat : ∀ c ∈ cs, Neat c
  short : ws.length ≤ 65536
theorem Snd.scans {ws : List Int} {l : List Ty} {bs : List Bool} {cs : List Cel} (h : Snd ws l bs cs) : Scans ws l 0 cs := h.tiled.scans (Int.le_refl _)
theorem gran_eq {ws ws' : List Int} (h : ws'.length = ws.length) : gran ws' = gran ws := by unfold gran; rw [h]
/-- A range of cells is laid anew. -/
theorem Snd.replace {ws ws1 : List Int} {l : List Ty} {bs : List Bool} {P M Q os : List Cel} {f e : Int} (h : Snd ws l bs (P ++ M ++ Q)) (hP : Tiled ws l 0 P f) (hM : Tiled ws l f M e) (hQ : Tiled ws l e Q (gran ws))
    (hlen : ws1.length = ws.length) (hk : ∀ b, 0 ≤ b → (b < f ∨ e ≤ b) → atG ws1 b = atG ws b) (hs : Standing ws1 l f os e) :
    Snd (becomeW ws1 f os e) l (becomeB bs f os e) (P ++ becomeL f os e ++ Q) := by
  have hf := hP.le
  have hfe := hM.le
  have he := hQ.le
  have hg1 : gran ws1 = gran ws := gran_eq hlen
  obtain ⟨t1, t2⟩ := become_tiled os ws1 f hf (show e ≤ gran ws1 by omega) (by rw [hlen]; exact h.short) hs
  have htg : ∀ c ∈ os, c.h.tg = 1 := fun c hc => (hs.mem c hc).2.2.2
  have hwl : (becomeW ws1 f os e).length = ws.length := (becomeW_length _ _ _ _).trans hlen
  refine ⟨?_, ?_, ?_, ?_, by rw [hwl]; exact h.short⟩
  · rw [gran_eq hwl]
    refine ((hP.keep fun c hc => ?_).append t1).append (hQ.keep fun c hc => ?_)
    · obtain ⟨a1, a2, a3, _⟩ := hP.mem c hc
      have := can_sz a3
      rw [t2 _ (by omega) (.inl (by omega)), hk _ (by omega) (.inl (by omega))]
    · obtain ⟨a1, a2, a3, _⟩ := hQ.mem c hc
      rw [t2 _ (by omega) (.inr (by omega)), hk _ (by omega) (.inr (by omega))]
  · rw [objs_append, objs_append, objs_becomeL _ _ _ htg]
    have ha := h.agree
    rw [objs_append, objs_append] at ha
    refine become_agree ha hf hfe (by have := h.len; omega) (fun c hc => ?_) (fun c hc => ?_) (fun c hc => ?_) (fun c hc => ?_)
    · obtain ⟨a1, a2, a3, _⟩ := hP.mem c (objs_mem.1 hc).1
      have := can_sz a3
      omega
    · obtain ⟨a1, a2, a3, _⟩ := hM.mem c (objs_mem.1 hc).1
      have := can_sz a3
      omega
    · exact (hQ.mem c (objs_mem.1 hc).1).1
    · obtain ⟨a1, a2, a3, _⟩ := hs.mem c hc
      have := can_sz a3
      omega
  · rw [becomeB_length, gran_eq hwl]; exact h.len
  · intro c hc
    rcases List.mem_append.1 hc with hc | hc
    · rcases List.mem_append.1 hc with hc | hc
      · exact h.neat c (by simp [hc])
      · exact neat_becomeL _ _ _ htg c hc
    · exact h.neat c (by simp [hc])
/-- Where a number begins an object of the space. -/
theorem Snd.at {ws : List Int} {l : List Ty} {bs : List Bool} {cs : List Cel} (h : Snd ws l bs cs) {i : Nat} (hi : bit bs i = true) : ∃ A c B, cs = A ++ c :: B ∧ c.a = (i : Int) ∧ c.h.tg = 1 ∧ Tiled ws l 0 A (i : Int) ∧ Tiled ws l (i : Int) (c :: B) (gran ws) := by
  obtain ⟨c, hc, hci⟩ := (h.agree i).1 hi
  obtain ⟨h1, h2⟩ := objs_mem.1 hc
  obtain ⟨A, B, rfl⟩ := List.append_of_mem h1
  obtain ⟨m, t1, t2⟩ := Tiled.split h.tiled
  have : m = (i : Int) := by rw [← hci]; exact t2.1.symm
  subst this
  exact ⟨A, c, B, rfl, hci, h2, t1, t2⟩
/-- The scan from the last object that begins at a granule or below it. -/
theorem Snd.from {ws : List Int} {l : List Ty} {bs : List Bool} {cs : List Cel} (h : Snd ws l bs cs) (g : Int) (g0 : 0 ≤ g) : ∃ A S, cs = A ++ S ∧ Tiled ws l (atI (prevO bs g)) S (gran ws) ∧ 0 ≤ atI (prevO bs g) ∧ atI (prevO bs g) ≤ g := by
  cases ho : prevO bs g with
  | none => exact ⟨[], cs, rfl, h.tiled, Int.le_refl _, g0⟩
  | some x =>
    obtain ⟨h1, h2, _⟩ := prevO_some ho
    obtain ⟨A, c, B, e1, _, _, _, e5⟩ := h.at h2
    exact ⟨A, c :: B, e1, e5, by show (0 : Int) ≤ ((x : Nat) : Int); omega, h1⟩
/-- The cell that gap finds. -/
theorem Snd.gap {ws : List Int} {l : List Ty} {bs : List Bool} {cs : List Cel} (h : Snd ws l bs cs) (g : Int) (g0 : 0 ≤ g) (g1 : g < gran ws) :
    ∃ S, Scans ws l (atI (prevO bs g)) S ∧ ∃ P x Q, cs = P ++ x :: Q ∧ x.a ≤ g ∧ g < x.a + x.h.sz ∧ S.find? (fun c => decide (g < c.a + c.h.sz)) = some x := by
  obtain ⟨A, S, e1, e2, e3, e4⟩ := h.from g g0
  obtain ⟨A', x, B, f1, f2, f3, f4⟩ := Tiled.find g e2 e4 g1
  exact ⟨S, e2.scans e3, A ++ A', x, B, by rw [e1, f1, List.append_assoc], f2, f3, f4⟩

/-! ### Drop -/
theorem split_left : ∀ (A : List Cel), ∃ A1 A2, A = A1 ++ A2 ∧ (∀ c ∈ A2, c.h.tg ≠ 1) ∧ (A1 = [] ∨ ∃ A0 p, A1 = A0 ++ [p] ∧ p.h.tg = 1)
  | [] => ⟨[], [], rfl, (fun c hc => by cases hc), .inl rfl⟩
  | a :: A => by
    obtain ⟨A1, A2, e, h1, h2⟩ := split_left A
    rcases h2 with rfl | ⟨A0, p, rfl, hp⟩
    · by_cases ha : a.h.tg = 1
      · exact ⟨[a], A2, by rw [e]; rfl, h1, .inr ⟨[], a, rfl, ha⟩⟩
      · refine ⟨[], a :: A2, by rw [e]; rfl, fun c hc => ?_, .inl rfl⟩
        rcases List.mem_cons.1 hc with rfl | hc
        · exact ha
        · exact h1 c hc
    · exact ⟨a :: (A0 ++ [p]), A2, by rw [e]; rfl, h1, .inr ⟨a :: A0, p, rfl, hp⟩⟩
theorem split_right : ∀ (B : List Cel), ∃ B1 B2, B = B1 ++ B2 ∧ (∀ c ∈ B1, c.h.tg ≠ 1) ∧ (B2 = [] ∨ ∃ p B0, B2 = p :: B0 ∧ p.h.tg = 1)
  | [] => ⟨[], [], rfl, (fun c hc => by cases hc), .inl rfl⟩
  | b :: B => by
    by_cases hb : b.h.tg = 1
    · exact ⟨[], b :: B, rfl, (fun c hc => by cases hc), .inr ⟨b, B, rfl, hb⟩⟩
    · obtain ⟨B1, B2, e, h1, h2⟩ := split_right B
      refine ⟨b :: B1, B2, by rw [e]; rfl, fun c hc => ?_, h2⟩
      rcases List.mem_cons.1 hc with rfl | hc
      · exact hb
      · exact h1 c hc
theorem objs_none {cs : List Cel} (h : ∀ c ∈ cs, c.h.tg ≠ 1) : objs cs = [] := by
  unfold objs
  rw [List.filter_eq_nil_iff]
  intro c hc
  simpa using h c hc
theorem objs_one {c : Cel} (h : c.h.tg = 1) : objs [c] = [c] := by unfold objs; rw [List.filter_cons_of_pos (by simpa using h)]; rfl
theorem Snd.drop {ws : List Int} {l : List Ty} {bs : List Bool} {cs : List Cel} (h : Snd ws l bs cs) {g : Nat} (hb : bit bs g = true) :
    ∃ P M Q c, cs = P ++ M ++ Q ∧ objs M = [c] ∧ c.a = (g : Int) ∧ Tiled ws l 0 P (prevEndV bs ws g) ∧ Tiled ws l (prevEndV bs ws g) M (nextStartV bs ws g) ∧ Tiled ws l (nextStartV bs ws g) Q (gran ws) := by
  obtain ⟨A, c, B, rfl, hc1, hc2, t1, t2⟩ := h.at hb
  obtain ⟨A1, A2, rfl, a1, a2⟩ := split_left A
  obtain ⟨B1, B2, rfl, b1, b2⟩ := split_right B
  have hcs := can_sz t2.2.1
  have t3 : Tiled ws l ((g : Int) + c.h.sz) (B1 ++ B2) (gran ws) := t2.2.2.2.2
  obtain ⟨m1, u1, u2⟩ := Tiled.split t1
  obtain ⟨m2, v1, v2⟩ := Tiled.split t3
  have hbl := bit_lt hb
  have hgl := h.len
  -- where objects begin
  have hobj : ∀ i : Nat, bit bs i = true ↔ ∃ d ∈ A1 ++ A2 ++ c :: (B1 ++ B2), d.h.tg = 1 ∧ d.a = (i : Int) := fun i => by
    rw [h.agree i]
    constructor
    · rintro ⟨d, hd, e⟩
      obtain ⟨x, y⟩ := objs_mem.1 hd
      exact ⟨d, x, y, e⟩
    · rintro ⟨d, hd, e, k⟩
      exact ⟨d, objs_mem.2 ⟨hd, e⟩, k⟩
  have hprev : prevEndV bs ws g = m1 := by
    unfold prevEndV
    rcases a2 with rfl | ⟨A0, p, rfl, hp⟩
    · have h0 : (0 : Int) = m1 := u1
      have hn : prevO bs ((g : Int) - 1) = none := by
        cases ho : prevO bs ((g : Int) - 1) with
        | none => rfl
        | some x =>
          exfalso
          obtain ⟨x1, x2, _⟩ := prevO_some ho
          obtain ⟨d, hd, d1, d2⟩ := (hobj x).1 x2
          simp only [List.nil_append, List.mem_append, List.mem_cons] at hd
          rcases hd with hd | rfl | hd | hd
          · exact a1 d hd d1
          · omega
          · have := (v1.mem d hd).1; omega
          · have := (v2.mem d hd).1; have := v1.le; omega
      rw [hn]
      exact h0
    · obtain ⟨m0, w1, w2⟩ := Tiled.split u1
      have hpa : p.a = m0 := w2.1
      have hps := can_sz w2.2.1
      have hpe : m0 + p.h.sz = m1 := w2.2.2.2.2
      have hu2 := u2.le
      have hm0 := w1.le
      have hpb : bit bs m0.toNat = true := (hobj m0.toNat).2 ⟨p, by simp, hp, by omega⟩
      have ho : prevO bs ((g : Int) - 1) = some m0.toNat := by
        cases ho : prevO bs ((g : Int) - 1) with
        | none => have := prevO_none ho m0.toNat (by omega); rw [this] at hpb; cases hpb
        | some x =>
          obtain ⟨x1, x2, x3⟩ := prevO_some ho
          obtain ⟨d, hd, d1, d2⟩ := (hobj x).1 x2
          have hge : m0.toNat ≤ x := by
            rcases Nat.lt_or_ge x m0.toNat with k | k
            · have := x3 m0.toNat k (by omega); rw [this] at hpb; cases hpb
            · exact k
          simp only [List.mem_append, List.mem_cons, List.not_mem_nil, or_false] at hd
          rcases hd with ((hd | rfl) | hd) | rfl | hd | hd
          · obtain ⟨y1, y2, y3, _⟩ := w1.mem d hd
            have := can_sz y3
            omega
          · rw [show m0.toNat = x by omega]
          · exact absurd d1 (a1 d hd)
          · omega
          · have := (v1.mem d hd).1; omega
          · have := (v2.mem d hd).1; have := v1.le; omega
      have hcell := (Tiled.cell u1 (Int.le_refl _) (show m1 ≤ (ws.length : Int) / 2 by have := u2.le; have : gran ws = (ws.length : Int) / 2 := rfl; omega) p (by simp)).2.1
      have hat : atI (some m0.toNat) = m0 := by show ((m0.toNat : Nat) : Int) = m0; omega
      rw [ho, hat, ← hpa, hcell, hpa]
      exact hpe
  have hnext : nextStartV bs ws g = m2 := by
    unfold nextStartV
    rcases b2 with rfl | ⟨p, B0, rfl, hp⟩
    · have h0 : m2 = gran ws := v2
      have hn : nextO bs ((g : Int) + 1) true = none := by
        cases ho : nextO bs ((g : Int) + 1) true with
        | none => rfl
        | some x =>
          exfalso
          obtain ⟨x1, x2, _⟩ := nextO_some (by omega) ho
          obtain ⟨d, hd, d1, d2⟩ := (hobj x).1 x2
          simp only [List.append_nil, List.mem_append, List.mem_cons] at hd
          rcases hd with (hd | hd) | rfl | hd
          · obtain ⟨y1, y2, y3, _⟩ := u1.mem d hd
            have := can_sz y3
            have := u2.le
            omega
          · obtain ⟨y1, y2, y3, _⟩ := u2.mem d hd
            have := can_sz y3
            omega
          · omega
          · exact b1 d hd d1
      rw [hn, h0]
      rfl
    · have hpa : p.a = m2 := v2.1
      have hps := can_sz v2.2.1
      have hv1 := v1.le
      have hpe := Tiled.le v2.2.2.2.2
      have hpb : bit bs m2.toNat = true := (hobj m2.toNat).2 ⟨p, by simp, hp, by omega⟩
      have ho : nextO bs ((g : Int) + 1) true = some m2.toNat := by
        cases ho : nextO bs ((g : Int) + 1) true with
        | none => have := nextO_none (by omega) ho m2.toNat (by omega); rw [this] at hpb; cases hpb
        | some x =>
          obtain ⟨x1, x2, x3⟩ := nextO_some (by omega) ho
          obtain ⟨d, hd, d1, d2⟩ := (hobj x).1 x2
          have hge : x ≤ m2.toNat := by
            rcases Nat.lt_or_ge m2.toNat x with k | k
            · have := x3 m2.toNat (by omega) k; rw [this] at hpb; cases hpb
            · exact k
          simp only [List.mem_append, List.mem_cons] at hd
          rcases hd with (hd | hd) | rfl | hd | rfl | hd
          · obtain ⟨y1, y2, y3, _⟩ := u1.mem d hd
            have := can_sz y3
            have := u2.le
            omega
          · obtain ⟨y1, y2, y3, _⟩ := u2.mem d hd
            have := can_sz y3
            omega
          · omega
          · exact absurd d1 (b1 d hd)
          · rw [show m2.toNat = x by omega]
          · have := (Tiled.mem v2.2.2.2.2 d hd).1
            omega
      have hat : atI (some m2.toNat) = m2 := by show ((m2.toNat : Nat) : Int) = m2; omega
      rw [ho]
      exact hat
  rw [hprev, hnext]
  refine ⟨A1, A2 ++ c :: B1, B2, c, by simp, ?_, hc1, u1, ?_, v2⟩
  · rw [objs_append, objs_none a1, List.nil_append, show c :: B1 = [c] ++ B1 from rfl, objs_append, objs_none b1, List.append_nil, objs_one hc2]
  · exact u2.append ⟨hc1, t2.2.1, t2.2.2.1, t2.2.2.2.1, v1⟩

/-! ### Put -/
theorem putW_other (ws : List Int) (i k : Nat) (u : List Int) (h : i + u.length ≤ ws.length) (hk : k < i ∨ i + u.length ≤ k) : (putW ws i u).getD k 0 = ws.getD k 0 := by
  have h1 : (ws.take i).length = i := by rw [List.length_take]; omega
  unfold putW
  rw [List.getD_eq_getElem?_getD, List.getD_eq_getElem?_getD]
  rcases hk with hk | hk
  · rw [List.getElem?_append_left (by omega), List.getElem?_take_of_lt hk]
  · rw [List.getElem?_append_right (by omega), h1, List.getElem?_append_right (by omega), List.getElem?_drop, show i + u.length + (k - i - u.length) = k by omega]
theorem make_zero {ws : List Int} {l : List Ty} {g i n : Int} (he : sizeE l i n = 0) (g0 : 0 ≤ g) (h : (ofL l i n).sz ≤ (ws.length : Int) / 2 - g) : makeE ws.length l g i n = 0 := by
  unfold makeE
  rw [if_neg (by simpa using he), (inG_iff _ _ _).2 ⟨g0, h⟩]
  rfl
theorem Snd.put {ws : List Int} {l : List Ty} {bs : List Bool} {P Q : List Cel} {x : Cel} (h : Snd ws l bs (P ++ x :: Q)) (hl : l.length ≤ 64) {g i n : Int} (he : sizeE l i n = 0) (hx : x.h.tg ≠ 1) (h1 : x.a ≤ g) (h2 : (ofL l i n).sz ≤ x.a + x.h.sz - g) :
    Snd (becomeW (makeW ws l g i n) x.a [⟨g, ofL l i n⟩] (x.a + x.h.sz)) l (becomeB bs x.a [⟨g, ofL l i n⟩] (x.a + x.h.sz)) (P ++ becomeL x.a [⟨g, ofL l i n⟩] (x.a + x.h.sz) ++ Q) := by
  obtain ⟨m, t1, t2⟩ := Tiled.split h.tiled
  have hm : x.a = m := t2.1
  subst hm
  have hP := t1.le
  have hQ := Tiled.le t2.2.2.2.2
  have hgr : gran ws = (ws.length : Int) / 2 := rfl
  have hmk := make_zero (ws := ws) (g := g) he (by omega) (by omega)
  obtain ⟨gn, sz, H⟩ := made_at hl hmk
  have hg := H.gEq
  have ho := H.head
  have hs1 := H.s1
  have hin := H.isin
  have hat := H.at
  have hcan := H.can
  rw [ho] at h2 ⊢
  simp only at h2
  have h0 : Snd ws l bs (P ++ [x] ++ Q) := by rw [List.append_assoc]; exact h
  refine h0.replace (ws1 := makeW ws l g i n) t1 ⟨rfl, t2.2.1, t2.2.2.1, t2.2.2.2.1, rfl⟩ t2.2.2.2.2 H.len (fun b hb hn => ?_) ⟨h1, hcan, hat, ?_, rfl, ?_⟩
  · unfold atG
    rw [H.words]
    refine putW_other _ _ _ _ ?_ ?_
    · simp only [List.length_cons, List.length_replicate]; omega
    · simp only [List.length_cons, List.length_replicate]; omega
  · exact Hd.fit_of ho he hcan
  · show g + sz ≤ x.a + x.h.sz
    omega
theorem objs_put {P Q : List Cel} {x c : Cel} {e : Int} (hx : x.h.tg ≠ 1) (hc : c.h.tg = 1) : objs (P ++ x :: Q) = objs P ++ objs Q ∧ objs (P ++ becomeL x.a [c] e ++ Q) = objs P ++ c :: objs Q := by
  refine ⟨?_, ?_⟩
  · rw [objs_append]
    unfold objs
    rw [List.filter_cons_of_neg (by simpa using hx)]
  · rw [objs_append, objs_append, objs_becomeL _ _ _ (fun d hd => by rw [List.mem_singleton.1 hd]; exact hc), List.append_assoc]
    rfl
end Go.Proofs.YtoagghileebokaaGreatDoor.Sp

/-
  What Put, Drop and Settle answer, and what they make of a space's words, as plain functions of the words and the cells.
-/
namespace Go.Proofs.YtoagghileebokaaGreatDoor.Sp
open Go.RowKit Go.Proofs.YtoagghileebokaaGreatDoor.Ar Go.Proofs.YtoagghileebokaaGreatDoor.Sh
open Go.Proofs.YtoagghileebokaaGreatDoor.Hd (Hd fitL wordI ofL of_facts can_obj encW_yes encW isHead isHead_iff dec_yes dec_no)
open Go.Proofs.YtoagghileebokaaGreatDoor.Tb (Ty sizeE)
open Go.Proofs.YtoagghileebokaaGreatDoor.Bt (bit atI prevO nextO hasV)
set_option linter.unusedVariables false

/-! ### Put -/
/-- There is room in a cell for an object at a granule. -/
def RoomP (l : List Ty) (g i n : Int) (c : Cel) : Prop := c.h.tg ≠ 1 ∧ c.a ≤ g ∧ g < c.a + c.h.sz ∧ (ofL l i n).sz ≤ c.a + c.h.sz - g
instance (l : List Ty) (g i n : Int) (c : Cel) : Decidable (RoomP l g i n c) := by unfold RoomP; infer_instance
def roomO (l : List Ty) (cs : List Cel) (g i n : Int) : Option Cel := cs.find? (fun c => decide (RoomP l g i n c))
def putE (ws : List Int) (l : List Ty) (cs : List Cel) (g i n : Int) : Int :=
  if sizeE l i n ≠ 0 then sizeE l i n else if g < 0 ∨ gran ws ≤ g then 2 else if (roomO l cs g i n).isSome then 0 else 3
/-- The words of a space in which an object was laid into a cell. -/
def putInto (ws : List Int) (l : List Ty) (x : Cel) (g i n : Int) : List Int := gapS (gapS (makeW ws l g i n) x.a g) (g + (ofL l i n).sz) (x.a + x.h.sz)
def putX (ws : List Int) (l : List Ty) (cs : List Cel) (g i n : Int) : List Int :=
  if sizeE l i n ≠ 0 then ws else if g < 0 ∨ gran ws ≤ g then ws else match roomO l cs g i n with | some x => putInto ws l x g i n | none => ws
theorem putE_err {ws : List Int} {l : List Ty} {cs : List Cel} {g i n : Int} (h : sizeE l i n ≠ 0) : putE ws l cs g i n = sizeE l i n ∧ putX ws l cs g i n = ws := by
  unfold putE putX; rw [if_pos h, if_pos h]; exact ⟨rfl, rfl⟩
theorem putE_far {ws : List Int} {l : List Ty} {cs : List Cel} {g i n : Int} (h : sizeE l i n = 0) (hg : g < 0 ∨ gran ws ≤ g) : putE ws l cs g i n = 2 ∧ putX ws l cs g i n = ws := by
  unfold putE putX; rw [if_neg (by simpa using h), if_pos hg, if_neg (by simpa using h), if_pos hg]; exact ⟨rfl, rfl⟩
theorem putE_full {ws : List Int} {l : List Ty} {cs : List Cel} {g i n : Int} (h : sizeE l i n = 0) (hg : 0 ≤ g ∧ g < gran ws) (hr : roomO l cs g i n = none) : putE ws l cs g i n = 3 ∧ putX ws l cs g i n = ws := by
  have hn : ¬ (g < 0 ∨ gran ws ≤ g) := by omega
  unfold putE putX; simp [h, hr, hn]
theorem putE_room {ws : List Int} {l : List Ty} {cs : List Cel} {g i n : Int} {x : Cel} (h : sizeE l i n = 0) (hg : 0 ≤ g ∧ g < gran ws) (hr : roomO l cs g i n = some x) : putE ws l cs g i n = 0 ∧ putX ws l cs g i n = putInto ws l x g i n := by
  have hn : ¬ (g < 0 ∨ gran ws ≤ g) := by omega
  unfold putE putX; simp [h, hr, hn]
/-- The cell that has the granule is the one that is asked. -/
theorem room_at {ws : List Int} {l l' : List Ty} {P Q : List Cel} {c : Cel} {g i n e : Int} (h : Tiled ws l' 0 (P ++ c :: Q) e) (h1 : c.a ≤ g) (h2 : g < c.a + c.h.sz) : roomO l (P ++ c :: Q) g i n = if RoomP l g i n c then some c else none := by
  obtain ⟨m, t1, t2⟩ := Tiled.split h
  have hm : c.a = m := t2.1
  have hP : P.find? (fun c => decide (RoomP l g i n c)) = none := by
    rw [List.find?_eq_none]
    intro d hd hh
    have hh := of_decide_eq_true hh
    have := (t1.mem d hd).2.1
    have := hh.2.2.1
    omega
  have hQ : Q.find? (fun c => decide (RoomP l g i n c)) = none := by
    rw [List.find?_eq_none]
    intro d hd hh
    have hh := of_decide_eq_true hh
    have := (Tiled.mem t2.2.2.2.2 d hd).1
    have := hh.2.1
    omega
  unfold roomO
  rw [List.find?_append, hP]
  simp only [Option.none_or]
  by_cases hc : RoomP l g i n c
  · rw [if_pos hc, List.find?_cons_of_pos (by simpa using hc)]
  · rw [if_neg hc, List.find?_cons_of_neg (by simpa using hc), hQ]

/-! ### Drop -/
/-- Where the gaps ahead of a granule begin (the cells ahead of it, the nearest one first). -/
def fromR : List Cel → Int → Int
  | [], f => f
  | c :: cs, f => if c.h.tg = 1 then f else fromR cs c.a
/-- Where the gaps behind a granule end. -/
def toR : List Cel → Int → Int
  | [], e => e
  | c :: cs, e => if c.h.tg = 1 then e else toR cs (c.a + c.h.sz)
theorem fromR_cut {ws : List Int} {l : List Ty} : ∀ {A : List Cel} {f g : Int}, Tiled ws l f A.reverse g → ∃ A1 A2 m, A.reverse = A1 ++ A2 ∧ (∀ c ∈ A2, c.h.tg ≠ 1) ∧ (A1 = [] ∨ ∃ A0 p, A1 = A0 ++ [p] ∧ p.h.tg = 1) ∧ Tiled ws l f A1 m ∧ Tiled ws l m A2 g ∧ fromR A g = m
  | [], f, g, h => by
    have h : f = g := h
    exact ⟨[], [], g, rfl, (fun c hc => by cases hc), .inl rfl, h, rfl, rfl⟩
  | c :: A, f, g, h => by
    rw [List.reverse_cons] at h
    obtain ⟨m, t1, t2⟩ := Tiled.split h
    by_cases hc : c.h.tg = 1
    · refine ⟨A.reverse ++ [c], [], g, by simp, (fun c hc => by cases hc), .inr ⟨_, _, rfl, hc⟩, h, rfl, ?_⟩
      unfold fromR
      rw [if_pos hc]
    · obtain ⟨A1, A2, m', e1, e2, e3, e4, e5, e6⟩ := fromR_cut t1
      refine ⟨A1, A2 ++ [c], m', by rw [List.reverse_cons, e1, List.append_assoc], fun d hd => ?_, e3, e4, e5.append t2, ?_⟩
      · rcases List.mem_append.1 hd with hd | hd
        · exact e2 d hd
        · rw [List.mem_singleton.1 hd]; exact hc
      · unfold fromR
        rw [if_neg hc, show c.a = m from t2.1]
        exact e6
theorem toR_cut {ws : List Int} {l : List Ty} : ∀ {B : List Cel} {f e : Int}, Tiled ws l f B e → ∃ B1 B2 m, B = B1 ++ B2 ∧ (∀ c ∈ B1, c.h.tg ≠ 1) ∧ (B2 = [] ∨ ∃ p B0, B2 = p :: B0 ∧ p.h.tg = 1) ∧ Tiled ws l f B1 m ∧ Tiled ws l m B2 e ∧ toR B f = m
  | [], f, e, h => ⟨[], [], f, rfl, (fun c hc => by cases hc), .inl rfl, rfl, h, rfl⟩
  | c :: B, f, e, h => by
    by_cases hc : c.h.tg = 1
    · refine ⟨[], c :: B, f, rfl, (fun c hc => by cases hc), .inr ⟨_, _, rfl, hc⟩, rfl, h, ?_⟩
      unfold toR
      rw [if_pos hc]
    · obtain ⟨B1, B2, m, e1, e2, e3, e4, e5, e6⟩ := toR_cut h.2.2.2.2
      refine ⟨c :: B1, B2, m, by rw [e1]; rfl, fun d hd => ?_, e3, ⟨h.1, h.2.1, h.2.2.1, h.2.2.2.1, e4⟩, e5, ?_⟩
      · rcases List.mem_cons.1 hd with rfl | hd
        · exact hc
        · exact e2 d hd
      · unfold toR
        rw [if_neg hc, show c.a = f from h.1]
        exact e6
/-- The object at a granule, with the cells ahead of it and behind it. -/
def objAt : List Cel → List Cel → Int → Option (List Cel × Cel × List Cel)
  | _, [], _ => none
  | A, c :: cs, g => if c.a = g ∧ c.h.tg = 1 then some (A, c, cs) else objAt (c :: A) cs g
def dropE (cs : List Cel) (g : Int) : Int := if (objAt [] cs g).isSome then 0 else 3
def dropX (ws : List Int) (cs : List Cel) (g : Int) : List Int := match objAt [] cs g with | some (A, c, B) => gapS ws (fromR A g) (toR B (g + c.h.sz)) | none => ws
theorem objAt_none {g : Int} : ∀ {A cs : List Cel}, (∀ c ∈ cs, c.h.tg = 1 → c.a ≠ g) → objAt A cs g = none
  | _, [], _ => rfl
  | A, c :: cs, h => by
    unfold objAt
    rw [if_neg (fun hh => h c List.mem_cons_self hh.2 hh.1)]
    exact objAt_none fun d hd => h d (List.mem_cons_of_mem _ hd)
theorem objAt_some {ws : List Int} {l : List Ty} {g e : Int} : ∀ {P : List Cel} {A : List Cel} {c : Cel} {Q : List Cel} {f : Int}, Tiled ws l f (P ++ c :: Q) e → c.a = g → c.h.tg = 1 → objAt A (P ++ c :: Q) g = some (P.reverse ++ A, c, Q)
  | [], A, c, Q, f, h, h1, h2 => by
    show objAt A (c :: Q) g = _
    unfold objAt
    rw [if_pos ⟨h1, h2⟩]
    rfl
  | d :: P, A, c, Q, f, h, h1, h2 => by
    obtain ⟨m, t1, t2⟩ := Tiled.split (a := d :: P) h
    have hd := (t1.mem d List.mem_cons_self).2.1
    have hz := can_sz (t1.mem d List.mem_cons_self).2.2.1
    have hc : c.a = m := t2.1
    show objAt A (d :: (P ++ c :: Q)) g = _
    unfold objAt
    rw [if_neg (fun hh => by have := hh.1; omega), objAt_some (h : Tiled ws l f (d :: (P ++ c :: Q)) e).2.2.2.2 h1 h2]
    simp

/-! ### Settle -/
/-- The objects that stand at these granules; the error. -/
def standL (ws : List Int) (l : List Ty) : Int → List Int → Option (List Cel)
  | _, [] => some []
  | e, g :: gs => if ofE ws l g = 0 ∧ e ≤ g then (standL ws l (g + (hdH ws g).sz) gs).map (fun cs => ⟨g, hdH ws g⟩ :: cs) else none
def settleE (ws : List Int) (l : List Ty) (gs : List Int) : Int := if (standL ws l 0 gs).isSome then 0 else 2
def settleX (ws : List Int) (l : List Ty) (gs : List Int) : List Int := match standL ws l 0 gs with | some cs => becomeW ws 0 cs (gran ws) | none => ws
theorem stand_cell {ws : List Int} {l : List Ty} {g : Int} (h : ofE ws l g = 0) : 0 ≤ g ∧ (hdH ws g).can ∧ atG ws g = wordI (hdH ws g) ∧ fitL l (hdH ws g) = 0 ∧ (hdH ws g).tg = 1 ∧ g + (hdH ws g).sz ≤ gran ws := by
  obtain ⟨s1, s2, s3, s4⟩ := stand_of h
  obtain ⟨c1, c2, c3⟩ := hdE_can s1
  obtain ⟨i1, i2⟩ := (inG_iff _ _ _).1 s4
  refine ⟨c1, c3, ?_, s3, s2, by unfold gran; omega⟩
  have hin : inG ws.length g 1 = true := (inG_iff _ _ _).2 ⟨c1, by omega⟩
  unfold hdE at s1
  rw [if_pos hin] at s1
  unfold hdH
  rw [if_pos hin]
  cases hh : isHead (atG ws g) with
  | false => rw [(dec_no hh).2] at s1; exact absurd s1 (by decide)
  | true => rw [(dec_yes hh).1, (isHead_iff.1 hh).2]
theorem standing_of {ws : List Int} {l : List Ty} : ∀ {gs : List Int} {f : Int} {cs : List Cel}, standL ws l f gs = some cs → f ≤ gran ws → Standing ws l f cs (gran ws)
  | [], f, cs, h, hf => by
    have h : some [] = some cs := h
    obtain rfl := Option.some.inj h
    exact hf
  | g :: gs, f, cs, h, hf => by
    unfold standL at h
    split at h
    · rename_i hc
      obtain ⟨s1, s2, s3, s4, s5, s6⟩ := stand_cell hc.1
      rw [Option.map_eq_some_iff] at h
      obtain ⟨r, h1, rfl⟩ := h
      exact ⟨hc.2, s2, s3, s4, s5, standing_of h1 s6⟩
    · cases h
end Go.Proofs.YtoagghileebokaaGreatDoor.Sp
