/-
  Several texts in one: BkOwnHit, BkUse.
-/
import Derived.Test.YtoagghileebokaaGreatDoorG37
/-
  Stage 12, black: the program's list: Hit.
-/
namespace Go.Proofs.YtoagghileebokaaGreatDoor.Bk
open Go.RowKit Go.Proofs.YtoagghileebokaaGreatDoor.Ar
open Go.Proofs.YtoagghileebokaaGreatDoor.Bt (Bv hasV)
set_option linter.unusedVariables false
section
variable {w x y z : World} {s : Bs} {c d : List Bool}
set_option maxRecDepth 100000 in
set_option maxHeartbeats 8000000 in
theorem hit_own (h : Obj2 w x s c d) {A : Option Addr} {cap : Nat} (gs : List Int) (hG : ∀ y, Kept [s.q0] x y → Ir.Seen y A gs) (hlen : gs.length ≤ 1000000) (hI : ∀ g ∈ gs, I64 g) :
    Calls Tryz.prog 23 #[.pointer (some ⟨s.p, 0, none⟩), .slice A gs.length cap] x fun e y => e = .returned (.int .i64 (hitE c.length gs)) ∧ ∃ c', Obj2 w y s c' d ∧ ages c' d = hitL (ages c d) gs ∧ Kept [s.q0] x y := by
  have hf := h.few
  have HB := Lib.hid h
  have HG := Lib.hid hG
  have HI := Lib.hid hI
  have H0 : Hid (inAll c.length (gs.take 0) = true) := Lib.hid rfl
  have HLn := Lib.hid (fun y (k : Kept [] x y) => len_own (h.keep0 k))
  have hno : inAll c.length gs = false → hitE c.length gs = 2 ∧ hitL (ages c d) gs = ages c d := fun e => by have := hit_no (ls := ages c d) (gs := gs) (by rw [ages_length]; exact e); rw [ages_length] at this; exact this
  have hyes : inAll c.length gs = true → hitE c.length gs = 0 ∧ hitL (ages c d) gs = hitAll (ages c d) gs := fun e => by have := hit_yes (ls := ages c d) (gs := gs) (by rw [ages_length]; exact e); rw [ages_length] at this; exact this
  have HNo := Lib.hid hno
  have HYes := Lib.hid hyes
  clear h hG hI hno hyes
  go_enter Tryz.func23, Tryz.ntmps23
  go_wp2_with fail
  go_loopw [13] (fun t wr => ∃ j : Nat, t = .int .i64 (j : Int) ∧ j ≤ gs.length ∧ Hid (inAll c.length (gs.take j) = true) ∧ Hid (Kept [] x wr)) (fun t _ => gs.length - (intOf t).toNat)
  case atStart => exact ⟨0, rfl, Nat.zero_le _, H0, Lib.hid (Kept.refl _ _)⟩
  case round =>
    clear H0
    obtain ⟨j, rfl, hj, hr, hk⟩ := hrel
    by_cases hlt : j < gs.length
    · obtain ⟨g0, f0, rfl, hc⟩ := (HG.out wr (hk.out.none _)).cells (by intro e; simp [e] at hlt)
      have ct := hc j hlt
      have HL := Lib.hid (HLn.out wr hk.out)
      have hm := num_mem hlt
      have hsn := inAll_snoc c.length (gs.take j) (gs.getD j 0)
      rw [← take_snoc hlt, hr.out, Bool.true_and] at hsn
      clear hc
      generalize gs.getD j 0 = g at *
      by_cases h0 : g < 0
      · have HN := Lib.hid (HNo.out (inAll_no hm (by omega)))
        clear hsn hm hr HNo HYes
        go_wp2_with fail
        go_ret
        rw [HN.out.1, HN.out.2]
        exact ⟨rfl, c, HB.out.keep0 hk.out, rfl, hk.out.none _⟩
      · by_cases h1 : g < (c.length : Int)
        · have HN : Hid (inAll c.length (gs.take (j + 1)) = true) := Lib.hid (by rw [hsn]; exact decide_eq_true ⟨by omega, h1⟩)
          clear hsn hm hr
          go_wp2_with fail
          refine HL.out.mono ?_
          rintro e y ⟨rfl, rfl⟩
          go_wp2_with fail
          go_roundw
          case rel => exact ⟨j + 1, by go_num, by omega, HN, hk⟩
          case measure => simp [intOf] <;> omega
        · have HN := Lib.hid (HNo.out (inAll_no hm (by omega)))
          clear hsn hm hr HNo HYes
          go_wp2_with fail
          refine HL.out.mono ?_
          rintro e y ⟨rfl, rfl⟩
          go_wp2_with fail
          go_ret
          rw [HN.out.1, HN.out.2]
          exact ⟨rfl, c, HB.out.keep0 hk.out, rfl, hk.out.none _⟩
    · obtain rfl : j = gs.length := by omega
      have hr1 := hr.out
      rw [List.take_length] at hr1
      have HA := Lib.hid hr1
      have HY := Lib.hid (HYes.out hr1)
      have H1 : Hid (∃ c', Obj2 w wr s c' d ∧ ages c' d = hitAll (ages c d) (gs.take 0) ∧ c'.length = c.length ∧ Kept [s.q0] x wr) := Lib.hid ⟨c, HB.out.keep0 hk.out, rfl, rfl, hk.out.none _⟩
      clear hr hr1 hk HNo HYes HLn
      go_wp2_with fail
      go_loopw [28] (fun t wi => ∃ k : Nat, t = .int .i64 (k : Int) ∧ k ≤ gs.length ∧ Hid (∃ c', Obj2 w wi s c' d ∧ ages c' d = hitAll (ages c d) (gs.take k) ∧ c'.length = c.length ∧ Kept [s.q0] x wi)) (fun t _ => gs.length - (intOf t).toNat)
      case atStart => exact ⟨0, rfl, Nat.zero_le _, H1⟩
      case round =>
        clear H1
        obtain ⟨k, rfl, hk, hi⟩ := hrel
        by_cases hkt : k < gs.length
        · obtain ⟨c', hO, hag, hcl, hkx⟩ := hi.out
          obtain ⟨g0, f0, rfl, hc⟩ := (HG.out wr hkx).cells (by intro e; simp [e] at hkt)
          have ct := hc k hkt
          have c0 := hO.c0
          have hin := inAll_mem HA.out (num_mem hkt)
          have hsn := hitAll_snoc (ages c d) (gs.take k) (gs.getD k 0)
          rw [← take_snoc hkt, ← hag, ← ages_set c' d (by omega), ← layB_one (c := c') (by omega)] at hsn
          have hi64 := HI.out _ (num_mem hkt)
          have HSet := Lib.hid (Bt.set_ok c' s.p0 s.q0 wr hO.r0 (gs.getD k 0) hi64.1 hi64.2)
          have hll : (Bt.layB c' (gs.getD k 0) 1 true).length = c'.length := Bt.layB_length _ _ _ _
          have HO := Lib.hid hO
          have HKx := Lib.hid hkx
          have HSn := Lib.hid hsn
          clear hc hO hag hkx hsn hi hin hi64
          generalize Bt.layB c' (gs.getD k 0) 1 true = c2 at *
          generalize Bt.errOf _ = er at *
          generalize gs.getD k 0 = g at *
          go_wp2_with fail
          refine HSet.out.mono ?_
          rintro e y ⟨rfl, hb, ky⟩
          have HN : Hid (∃ c', Obj2 w y s c' d ∧ ages c' d = hitAll (ages c d) (gs.take (k + 1)) ∧ c'.length = c.length ∧ Kept [s.q0] x y) := Lib.hid ⟨c2, HO.out.set0 hll hb ky, HSn.out.symm, hll.trans hcl, HKx.out.trans ky⟩
          clear hb ky HSet HO HKx HSn ct c0
          go_wp2_with fail
          go_roundw
          case rel => exact ⟨k + 1, by go_num, by omega, HN⟩
          case measure => simp [intOf] <;> omega
        · obtain rfl : k = gs.length := by omega
          obtain ⟨c', hO, hag, hcl, hkx⟩ := hi.out
          rw [List.take_length] at hag
          have HO : Hid (Obj2 w wr s c' d ∧ ages c' d = hitAll (ages c d) gs ∧ Kept [s.q0] x wr) := Lib.hid ⟨hO, hag, hkx⟩
          clear hO hag hkx hi
          go_wp2_with fail
          go_ret
          rw [HY.out.1, HY.out.2]
          exact ⟨rfl, c', HO.out.1, HO.out.2.1, HO.out.2.2⟩
end
end Go.Proofs.YtoagghileebokaaGreatDoor.Bk

/-
  Stage 12, black: the program's list for later layers: each contract by itself (a seat may lack some of the functions).
-/
namespace Go.Proofs.YtoagghileebokaaGreatDoor.Bk
open Go.RowKit Go.Proofs.YtoagghileebokaaGreatDoor.Ar
set_option linter.unusedVariables false
section
variable {w x y : World} {p : Nat} {T S : List Nat} {ls : List Int}
theorem Pb.kept (h : Pb w x p T ls) (k : Kept S x y) (h1 : ∀ i ∈ T, i ∉ S) (h2 : ∀ i ∈ S, w.heap.size ≤ i) : Pb w y p T ls :=
  let ⟨s, c, d, hp, ht, hl, h⟩ := h; ⟨s, c, d, hp, ht, hl, h.kept k (by rw [ht]; exact h1) h2⟩
theorem Pb.keep0 (h : Pb w x p T ls) (k : Kept [] x y) : Pb w y p T ls := h.kept k (fun _ _ hi => by cases hi) (fun _ hi => by cases hi)
theorem Pb.fresh (h : Pb w x p T ls) : ∀ i ∈ T, w.heap.size ≤ i ∧ i < x.heap.size := fun i hi =>
  let ⟨s, c, d, hp, ht, hl, h⟩ := h; ⟨h.own i (by rw [ht]; exact hi), h.lt i (by rw [ht]; exact hi)⟩
theorem Pb.start (h : Pb w x p T ls) : Kept [] w x := let ⟨s, c, d, hp, ht, hl, h⟩ := h; h.start
theorem Pb.aged (h : Pb w x p T ls) : Aged ls ∧ ls.length ≤ 65536 := let ⟨s, c, d, hp, ht, hl, h⟩ := h; by rw [← hl]; exact ⟨ages_aged c d, by rw [ages_length]; exact h.few⟩
theorem pb_new (n : Nat) (hk : Kept [] w x) (hn : n ≤ 65536) : Calls Tryz.prog 21 #[.int .i64 n] x fun e y => ∃ p T, e = .returned (.tuple #[.pointer (some ⟨p, 0, none⟩), .int .i64 0]) ∧ Pb w y p T (List.replicate n 0) ∧ Kept [] x y ∧ ∀ i ∈ T, x.heap.size ≤ i :=
  (new_yes12 n hn hk).mono fun e y ⟨s, he, h, k, hf⟩ => ⟨s.p, s.all, he, ⟨s, _, _, rfl, rfl, ages_new n, h⟩, k, hf⟩
theorem pb_hit {A : Option Addr} {c : Nat} (gs : List Int) (h : Pb w x p T ls) (hG : ∀ y, Kept T x y → Ir.Seen y A gs) (hlen : gs.length ≤ 1000000) (hI : ∀ g ∈ gs, I64 g) :
    Calls Tryz.prog 23 #[.pointer (some ⟨p, 0, none⟩), .slice A gs.length c] x fun e y => e = .returned (.int .i64 (hitE ls.length gs)) ∧ ∃ T', Pb w y p T' (hitL ls gs) ∧ Kept T x y ∧ ∀ i ∈ T', i ∈ T ∨ x.heap.size ≤ i := by
  obtain ⟨s, c, d, hp, ht, hl, h⟩ := h
  subst hp ht hl
  refine (hit_own h gs (fun y k => hG y (k.mono fun i hi => by rw [List.mem_singleton.1 hi]; simp [Bs.all])) hlen hI).mono fun e y ⟨he, c', h', ha, k⟩ => ?_
  rw [ages_length]
  exact ⟨he, s.all, ⟨s, c', d, rfl, rfl, ha, h'⟩, k.mono fun i hi => by rw [List.mem_singleton.1 hi]; simp [Bs.all], fun i hi => .inl hi⟩
theorem pb_has (g : Int) (h : Pb w x p T ls) (hg : I64 g) : Calls Tryz.prog 17 #[.pointer (some ⟨p, 0, none⟩), .int .i64 g] x fun e y => e = .returned (.bool (hasL ls g)) ∧ Kept [] x y := by
  obtain ⟨s, c, d, hp, ht, hl, h⟩ := h
  subst hp hl
  exact has_own h g hg
theorem pb_len (h : Pb w x p T ls) : Calls Tryz.prog 44 #[.pointer (some ⟨p, 0, none⟩)] x fun e y => e = .returned (.int .i64 ls.length) ∧ x = y := by
  obtain ⟨s, c, d, hp, ht, hl, h⟩ := h
  subst hp hl
  rw [ages_length]
  exact len_own h
end
section
variable {x : World}
theorem last_none (g n : Int) : Calls Tryz.prog 35 #[.pointer none, .int .i64 g, .int .i64 n] x fun e y => e = .returned (.tuple #[.int .i64 0, .bool false]) ∧ x = y := by
  go_enter Tryz.func35, Tryz.ntmps35
  go_wp2_with fail
  go_ret2
  exact ⟨rfl, rfl⟩
theorem has_none (g : Int) : Calls Tryz.prog 17 #[.pointer none, .int .i64 g] x fun e y => e = .returned (.bool false) ∧ x = y := by
  have HL := Lib.hid (last_none (x := x) g 1)
  go_enter Tryz.func17, Tryz.ntmps17
  go_wp2_with fail
  refine HL.out.mono ?_
  rintro e y ⟨rfl, rfl⟩
  go_wp2_with fail
  go_ret
  exact ⟨rfl, rfl⟩
end
end Go.Proofs.YtoagghileebokaaGreatDoor.Bk
