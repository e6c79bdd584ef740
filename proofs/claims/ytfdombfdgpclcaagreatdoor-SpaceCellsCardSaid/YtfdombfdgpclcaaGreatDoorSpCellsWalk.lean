/-
  The law SpaceCells returns true.
-/
import Derived.Test.YtfdombfdgpclcaaGreatDoorSpLaw
import Derived.Test.YtfdombfdgpclcaaGreatDoorSpHeavy
import Derived.Deep.DeepCutAuto
import Derived.Deep.CutBlock
import Derived.Deep.RegionLaw
import Derived.Deep.RegionHeld3
import Derived.Lib.QuietBelow
import Derived.Deep.QuietTactic
import Derived.BigQuiet
namespace Go.Proofs.YtfdombfdgpclcaaGreatDoor.Sp
open Go.RowKit Go.Proofs.YtfdombfdgpclcaaGreatDoor.Ar Go.Proofs.YtfdombfdgpclcaaGreatDoor.Sh
open Go.Proofs.YtfdombfdgpclcaaGreatDoor.Hd (Hd Fields ofL)
open Go.Proofs.YtfdombfdgpclcaaGreatDoor.Tb (Ty Tab Made NewPost newF newF_len sizeE sizeT)
open Go.Proofs.YtfdombfdgpclcaaGreatDoor.Bt (Bv bit hasV has_ok)
open Go.Proofs.YtfdombfdgpclcaaGreatDoor.Wd (Table)
set_option linter.unusedVariables false

theorem newF_one : ∀ (l acc : List Ty), (newF acc l).2 = 0 → (newF acc l).1 = acc ++ l
  | [], acc, _ => by simp [newF]
  | x :: l, acc, h => by
    unfold newF at h ⊢
    by_cases he : Tb.addE acc x = 0
    · rw [if_pos he] at h ⊢
      rw [newF_one l _ h, List.append_assoc]
      rfl
    · rw [if_neg he] at h
      exact absurd h he
theorem one_beside {w x : World} {s : Ids} {l : List Ty} {cs : List Cel} (h : Has1 w x s l cs) {b : Nat} {t : TypeId} {vs : List Value} (hb : Has x b t vs) (h1 : t ≠ 93) (h2 : t ≠ 34) (h3 : t ≠ 139) : b ∉ s.turn := let ⟨ws, bs, m⟩ := h; m.spc.beside hb h1 h2 h3
theorem one_tab {w x : World} {s : Ids} {l : List Ty} {cs : List Cel} (h : Has1 w x s l cs) : Tab x s.tp s.A s.c l := let ⟨ws, bs, m⟩ := h; m.spc.tab
theorem one_tiled {w x : World} {s : Ids} {l : List Ty} {cs : List Cel} (h : Has1 w x s l cs) {N : Int} (hN : tot cs = N) : ∃ ws, Tiled ws l 0 cs N := let ⟨ws, bs, m⟩ := h; ⟨ws, by rw [← hN, tot_of m.snd]; exact m.snd.tiled⟩
theorem tot_new {n : Nat} (h : mayB (n : Int) = true) (l : List Ty) : tot (newC n) = (n : Int) / 2 := by
  rw [tot_of (new_snd h l)]
  unfold newW
  rw [gran_eq (becomeW_length _ _ _ _), (gran_zeros h).1]
theorem row_new (w x : World) (n : Nat) : Row w x (.slice none 0 0) [] (newC n) := ⟨Own.nil _, .inl rfl, by rw [show objs (newC n) = [] from objs_gapL _ _]⟩
/-- Behind a step's switch. -/
def After (w x : World) (s : Ids) (l : List Ty) (cs : List Cel) (vw v er : Value) (j : Nat) (N : Int) : Prop :=
  ∃ (e : Int) (cs' T : List Cel), er = .int .i64 e ∧ Has1 w x s l cs' ∧ Row w x v T cs' ∧ T.length ≤ j + 1 ∧ (e ≠ 0 → cs' = cs ∧ Own x vw cs) ∧ tot cs' = N
/-- Starts, and then Has of what it hands back, in whatever later worlds. -/
theorem one_reads {w x : World} {s : Ids} {l : List Ty} {cs : List Cel} (h : Has1 w x s l cs) (y : World) (k : Kept [] x y) :
    Calls Tryz.prog 16 #[.pointer (some ⟨s.sp, 0, none⟩)] y fun e z => ∃ p, e = .returned (.pointer (some ⟨p, 0, none⟩)) ∧ Kept [] y z ∧
      ∀ c ∈ cs, ∀ u, Kept [] z u → Calls Tryz.prog 17 #[.pointer (some ⟨p, 0, none⟩), .int .i64 c.a] u fun e v => e = .returned (.bool (decide (c.h.tg = 1))) ∧ Kept [] u v := by
  have hr : ∀ c ∈ cs, -9223372036854775808 ≤ c.a ∧ c.a ≤ 9223372036854775807 := fun c hc => by
    obtain ⟨ws, bs, m⟩ := h
    obtain ⟨a1, a2, a3, _⟩ := m.snd.tiled.mem c hc
    have hz := can_sz a3
    have := m.spc.short
    have hgr : gran ws ≤ 32768 := by unfold gran; omega
    omega
  refine (one_starts (h.keep0 k)).mono ?_
  rintro e z ⟨p, q, bs, he, hb, hv, hk⟩
  refine ⟨p, he, hk, fun c hc u ku => ?_⟩
  rw [← hv c hc]
  exact has_ok bs p q u (hb.keep0 ku) c.a (hr c hc).1 (hr c hc).2
section
variable {w x x7 x8 : World} {s : Ids} {l : List Ty} {cs' T : List Cel} {g0 cap k : Nat} {v7 v8 : Value}
theorem half1 (hF : Fields w) (hTb : Table w) (H : Has1 w x s l cs') (hO : Own x (.slice (some ⟨g0, 0, none⟩) T.length cap) T) (o7 : Own x7 v7 ([] ++ T.take k)) (g7 : x.grownBy x7 (Value.slice none 0 0).ownBlock)
    (b7 : v7.ownBlock = (Value.slice none 0 0).ownBlock ∨ v7.ownBlock = some x.heap.size) :
    Has1 w x7 s l cs' ∧ Own x7 (.slice (some ⟨g0, 0, none⟩) T.length cap) T ∧ Own x7 v7 (T.take k) ∧ FreshV w v7 :=
  ⟨H.grown hF hTb (Own.nil _) (.inl rfl) g7, hO.keep g7 (.inr (by intro e; cases e)), by rw [List.nil_append] at o7; exact o7, fresh_own H.kept (.inl rfl) b7⟩
theorem half_keep {y : World} (H : Has1 w x7 s l cs' ∧ Own x7 (.slice (some ⟨g0, 0, none⟩) T.length cap) T ∧ Own x7 v7 (T.take k) ∧ FreshV w v7) (h : Kept [] x7 y) : Has1 w y s l cs' ∧ Own y (.slice (some ⟨g0, 0, none⟩) T.length cap) T ∧ Own y v7 (T.take k) ∧ FreshV w v7 :=
  ⟨H.1.keep0 h, H.2.1.keep0 h, H.2.2.1.keep0 h, H.2.2.2⟩
theorem half2 (hF : Fields w) (hTb : Table w) (H : Has1 w x7 s l cs' ∧ Own x7 (.slice (some ⟨g0, 0, none⟩) T.length cap) T ∧ Own x7 v7 (T.take k) ∧ FreshV w v7) (o8 : Own x8 v8 (T.take k ++ T.drop (k + 1))) (g8 : x7.grownBy x8 v7.ownBlock)
    (b8 : v8.ownBlock = v7.ownBlock ∨ v8.ownBlock = some x7.heap.size) (hp : (T.take k ++ T.drop (k + 1)).Perm (objs cs')) {N : Int} (ht : tot cs' = N) {j : Nat} (hT : T.length ≤ j) (cs : List Cel) (vw : Value) :
    After w x8 s l cs vw v8 (.int .i64 0) j N :=
  ⟨0, cs', _, rfl, H.1.grown hF hTb H.2.2.1 H.2.2.2 g8, ⟨o8, fresh_own H.1.kept H.2.2.2 b8, hp⟩, by rw [List.length_append, List.length_take, List.length_drop]; omega, fun h => absurd rfl h, ht⟩
end
section
variable {w : World}
set_option maxRecDepth 100000 in
set_option maxHeartbeats 16000000 in
theorem cells_walk (a0 : Int) (b0 : -9223372036854775808 ≤ a0 ∧ a0 ≤ 9223372036854775807) (A1 : Option Addr) (l : List Ty) (cap1 : Nat) (A2 : Option Addr) (L : List Stp) (cap2 : Nat) (hF : Fields w) (hTb : Table w)
    (hl : l.length ≤ maxLen) (hS1 : Tb.Seen w A1 l) (hok1 : ∀ t ∈ l, t.ok) (hL : L.length ≤ maxLen) (hS2 : Steps w A2 L) (hok2 : ∀ s ∈ L, s.ok) :
    Calls Tryz.prog 3 #[.int .i64 a0, .slice A1 l.length cap1, .slice A2 L.length cap2] w fun e w' => e = .returned (.bool true) ∧ Kept [] w w' := by
  have HA := Lib.hid (fun y (k : Kept [] w y) => alive_ok (hF.keep0 k) (table_keep0 hTb k))
  have HH := Lib.hid (heavy_ok a0 A1 l.length cap1 A2 L cap2 hS2 hok2 hl hL)
  have HFd := Lib.hid hF
  have HTb := Lib.hid hTb
  have HS1 := Lib.hid hS1
  have HOk1 := Lib.hid hok1
  have HS2 := Lib.hid hS2
  have HOk2 := Lib.hid hok2
  clear hF hTb hS1 hok1 hS2 hok2 hl hL
  go_enter Tryz.func3, Tryz.ntmps3
  go_wp2_with fail
  refine HH.out.mono ?_
  rintro e y ⟨⟨b, rfl, hb⟩, rfl⟩
  clear HH
  cases b with
  | true =>
    clear hb
    go_wp2_with fail
    refine (HA.out _ (Kept.refl _ _)).mono ?_
    rintro e y ⟨rfl, hk⟩
    have HK := Lib.hid hk
    clear hk
    go_wp2_with fail
    go_ret
    exact ⟨rfl, HK.out⟩
  | false =>
    obtain ⟨hn, hl, hL⟩ := hb rfl
    clear hb
    have HNt := Lib.hid (Tb.new_ok (l := l) cap1 HS1.out HOk1.out (by omega))
    go_wp2_with fail
    refine HNt.out.mono ?_
    rintro e x1 (⟨h0, tp, A, c, rfl, hm⟩ | ⟨h0, rfl, k1⟩)
    · have hl1 : (newF [] l).1 = l := newF_one l [] h0
      rw [hl1] at hm
      have k1 : Kept [] w x1 := hm.2.2.2
      have HT := Lib.hid hm.1
      have K1 := Lib.hid k1
      clear hm k1 hl1 h0 HNt
      cases hmb : mayB a0 with
      | false =>
        have HN := Lib.hid (new_no a0 hmb tp x1)
        clear hmb
        go_wp2_with fail
        refine HN.out.mono ?_
        rintro e x2 ⟨rfl, rfl⟩
        go_wp2_with fail
        refine (HA.out _ K1.out).mono ?_
        rintro e y ⟨rfl, hk⟩
        have HK := Lib.hid (K1.out.trans hk)
        clear hk
        go_wp2_with fail
        go_ret
        exact ⟨rfl, HK.out⟩
      | true =>
        obtain ⟨q1, q2, q3⟩ := (mayB_iff _).1 hmb
        obtain ⟨n, rfl⟩ := Int.eq_ofNat_of_zero_le (show 0 ≤ a0 by omega)
        have HN := Lib.hid (one_new (w := w) n hmb (HFd.out.keep0 K1.out) (table_keep0 HTb.out K1.out) HT.out K1.out)
        have hn6 : n ≤ 600 := by omega
        have hmb' := hmb
        clear hmb q3 hn
        go_wp2_with fail
        refine HN.out.mono ?_
        rintro e x2 ⟨s, rfl, hstp, h2, k2⟩
        have hnew : Hid (Has1 w x2 s l (newC n) ∧ Row w x2 (.slice none 0 0) [] (newC n) ∧ tot (newC n) = (n : Int) / 2) := Lib.hid ⟨h2, row_new _ _ _, tot_new hmb' l⟩
        have Htp := Lib.hid hstp
        have hdiv : (n : Int).tdiv 2 = (n : Int) / 2 := Int.tdiv_eq_ediv_of_nonneg (by omega)
        have hN8 : (n : Int) / 2 ≤ 300 := by omega
        have HD := Lib.hid hdiv
        clear h2 k2 HN HT K1 hstp hmb' hdiv
        go_wp2_with fail
        go_loopw [11, 12] (fun v t wr => ∃ (j : Nat) (T cs : List Cel), t = .int .i64 (j : Int) ∧ j ≤ L.length ∧ T.length ≤ j ∧ Hid (Has1 w wr s l cs ∧ Row w wr v T cs ∧ tot cs = (n : Int) / 2)) (fun _ t _ => L.length - (intOf t).toNat)
        case atStart => exact ⟨0, [], newC n, rfl, Nat.zero_le _, Nat.le_refl _, hnew⟩
        case round =>
          obtain ⟨j, T, cs, rfl, hj, hT, hr⟩ := hrel
          clear hnew
          by_cases hlt : j < L.length
          · obtain ⟨g0, f0, st, rfl, hg0, hst, c0, c1, c2, c3, c4, c5⟩ := step_at (HS2.out.keep0 hr.out.1.kept) j hlt
            obtain ⟨d1, d2, d3, d4, _⟩ := HOk2.out st hst
            unfold I64 at d1 d2 d3 d4
            obtain ⟨sd, sg, si, sn, su, sA, slen, scap⟩ := st
            simp only at c0 c1 c2 c3 c4 c5 d1 d2 d3 d4
            have hk3 : Kept [] wr (wr.alloc (.cells #[.int .i64 sd, .int .i64 sg, .int .i64 si, .int .i64 sn, .int .u64 su, .slice sA slen scap] 37)) := (Kept.refl [] wr).alloc _
            have hb3 := Has.new wr 37 [.int .i64 sd, .int .i64 sg, .int .i64 si, .int .i64 sn, .int .u64 su, .slice sA slen scap]
            have H3 := Lib.hid (hr.out.1.keep0 hk3)
            have R3 := Lib.hid (hr.out.2.1.keep0 hk3)
            have HTo := Lib.hid hr.out.2.2
            have B3 := Lib.hid hb3
            clear hk3 hb3 hr
            go_wp2_with fail
            generalize wr.alloc (.cells #[.int .i64 sd, .int .i64 sg, .int .i64 si, .int .i64 sn, .int .u64 su, .slice sA slen scap] 37) = x3 at *
            generalize wr.heap.size = b13 at *
            refine (one_cells H3.out).mono ?_
            rintro e x4 ⟨vw, rfl, hw4, _, k4⟩
            have H4 := Lib.hid (H3.out.keep0 k4)
            have R4 := Lib.hid (R3.out.keep0 k4)
            have B4 := Lib.hid (B3.out.keep0 k4)
            have W4 := Lib.hid hw4
            clear hw4 k4 H3 R3 B3 c0 c1 c2 c3 c4 c5
            have e0 : x4.cell? ⟨b13, 0, none⟩ = some (.int .i64 sd) := B4.out.cell 0
            go_upto_block 2 with fail
            clear e0
            go_cut [11, 15] (fun v' er wx => Hid (After w wx s l cs vw v' er j ((n : Int) / 2)))
            case first =>
              have e1 : x4.cell? ⟨b13, 1, none⟩ = some (.int .i64 sg) := B4.out.cell 1
              have e2 : x4.cell? ⟨b13, 2, none⟩ = some (.int .i64 si) := B4.out.cell 2
              have e3 : x4.cell? ⟨b13, 3, none⟩ = some (.int .i64 sn) := B4.out.cell 3
              by_cases h0 : sd = 0
              · subst h0
                go_wp2_with fail
                refine (one_put H4.out sg si sn d2.1 d2.2 d3.1 d3.2).mono ?_
                rintro e x5 ⟨er, cs', rfl, h5, k5, hp, ht⟩
                have W5 := Lib.hid (W4.out.kept k5 (own_turn H4.out W4.out))
                have O5 := Lib.hid (R4.out.own.kept k5 (own_turn H4.out R4.out.own))
                have B5 := Lib.hid (B4.out.kept k5 (one_beside H4.out B4.out (by decide) (by decide) (by decide)))
                have H5 := Lib.hid h5
                have P5 := Lib.hid hp
                have T5 := Lib.hid (ht.trans HTo.out)
                clear e1 e2 e3 h5 k5 hp ht H4 W4 B4
                by_cases hz : er = 0
                · subst hz
                  have htab := one_tab H5.out
                  rw [Htp.out] at htab
                  have HSz := Lib.hid (Tb.size_ok htab si sn d3.1 d3.2)
                  clear htab
                  have e2 : x5.cell? ⟨b13, 2, none⟩ = some (.int .i64 si) := B5.out.cell 2
                  have e3 : x5.cell? ⟨b13, 3, none⟩ = some (.int .i64 sn) := B5.out.cell 3
                  go_wp2_with fail
                  refine HSz.out.mono ?_
                  rintro e x6 ⟨rfl, k6⟩
                  have O6 := Lib.hid ((O5.out.keep0 k6).keep0 ((Kept.refl [] x6).alloc (.cells #[.int .i64 sg, .int .u8 1, .int .i64 si, .int .i64 sn, .int .i64 (sizeT l si sn)] 45)))
                  have H6 := Lib.hid ((H5.out.keep0 k6).keep0 ((Kept.refl [] x6).alloc (.cells #[.int .i64 sg, .int .u8 1, .int .i64 si, .int .i64 sn, .int .i64 (sizeT l si sn)] 45)))
                  have hbb := Has.new x6 45 [.int .i64 sg, .int .u8 1, .int .i64 si, .int .i64 sn, .int .i64 (sizeT l si sn)]
                  have S6 := Lib.hid (seen_one (x := ⟨sg, ⟨1, si, sn, sizeT l si sn⟩⟩) hbb)
                  have B6 := B5.out.keep0 k6
                  have e1 : x6.cell? ⟨b13, 1, none⟩ = some (.int .i64 sg) := B6.cell 1
                  have e2 : x6.cell? ⟨b13, 2, none⟩ = some (.int .i64 si) := B6.cell 2
                  have e3 : x6.cell? ⟨b13, 3, none⟩ = some (.int .i64 sn) := B6.cell 3
                  clear k6 HSz B6 hbb B5 O5 H5
                  go_wp2_with (at_builtin; (refine append_cels rfl (.tmp 83) (.tmp 93) rfl u11 T rfl O6.out (some ⟨x6.heap.size, 0, none⟩) 1 [⟨sg, ⟨1, si, sn, sizeT l si sn⟩⟩] rfl (fun h => by cases h) S6.out (by simp only [List.length_singleton]; omega) ?_))
                  intro v7 x7 o7 g7 b7 _
                  have hA : Hid (After w x7 s l cs vw v7 (.int .i64 0) j ((n : Int) / 2)) := Lib.hid
                    ⟨0, cs', T ++ [⟨sg, ⟨1, si, sn, sizeT l si sn⟩⟩], rfl, H6.out.grown HFd.out HTb.out O6.out R4.out.fresh g7, ⟨o7, fresh_own H6.out.kept R4.out.fresh (by simpa using b7), put_row R4.out.perm P5.out⟩, by rw [List.length_append, List.length_singleton]; omega, fun h => absurd rfl h, T5.out⟩
                  clear o7 g7 b7 O6 H6 S6 e1 e2 e3
                  go_wp2_with fail
                  go_meet
                  case rel => exact hA
                · have hb0 : (er == 0) = false := by simpa using hz
                  have hcs : cs' = cs := by
                    rcases P5.out with ⟨_, h⟩ | ⟨h, _⟩
                    · exact h
                    · exact absurd h hz
                  subst hcs
                  have hA : Hid (After w x5 s l cs' vw u11 (.int .i64 er) j ((n : Int) / 2)) := Lib.hid
                    ⟨er, cs', T, rfl, H5.out, ⟨O5.out, R4.out.fresh, R4.out.perm⟩, by omega, fun _ => ⟨rfl, W5.out⟩, T5.out⟩
                  clear hz
                  go_wp2_with fail
                  go_meet
                  case rel => exact hA
              · by_cases h1 : sd = 1
                · subst h1
                  clear h0
                  go_wp2_with fail
                  refine (one_drop H4.out sg d2.1 d2.2).mono ?_
                  rintro e x5 ⟨er, cs', rfl, h5, k5, hp, ht⟩
                  have W5 := Lib.hid (W4.out.kept k5 (own_turn H4.out W4.out))
                  have O5 := Lib.hid (R4.out.own.kept k5 (own_turn H4.out R4.out.own))
                  have B5 := B4.out.kept k5 (one_beside H4.out B4.out (by decide) (by decide) (by decide))
                  have f1 : x5.cell? ⟨b13, 1, none⟩ = some (.int .i64 sg) := B5.cell 1
                  have H5 := Lib.hid h5
                  have T5 := Lib.hid (ht.trans HTo.out)
                  obtain ⟨A, c, rfl, _⟩ := back_own (Kept.refl [] _) O5.out
                  have HFn := Lib.hid (find_ok (cap := c) T O5.out.seen sg (by omega))
                  by_cases hz : er = 0
                  · subst hz
                    obtain ⟨k, k1, k2, k3⟩ := drop_row H4.out R4.out.perm hp
                    rw [k2] at HFn
                    obtain ⟨g0, cap, e, _, hTc, _⟩ : ∃ g cap, Value.slice A T.length c = .slice (some ⟨g, 0, none⟩) T.length cap ∧ g < x5.heap.size ∧ T.length ≤ cap ∧ cap ≤ maxLen := by
                      rcases O5.out.form with ⟨_, h0⟩ | h
                      · rw [h0] at k1; cases k1
                      · exact h
                    injection e with e _ e'
                    subst e e'
                    have K3 := Lib.hid k3
                    have hge : decide ((k : Int) ≥ 0) = true := decide_eq_true (by omega)
                    have hge2 : decide (0 ≤ (k : Int)) = true := decide_eq_true (by omega)
                    clear e1 e2 e3 h5 k5 hp ht H4 W4 B4 B5 k2 k3 W5
                    go_wp2_with fail
                    refine HFn.out.mono ?_
                    rintro e x6 ⟨rfl, rfl⟩
                    have hwr : IntKind.i64.wrap ((k : Int) + 1) = (k : Int) + 1 := by rw [IntKind.wrap_i64]; omega
                    have O6 : Hid (∀ y, Kept [] x5 y → Own y (.slice (some ⟨g0, 0, none⟩) T.length c) T) := Lib.hid fun y hy => O5.out.keep0 hy
                    have hkc : k ≤ c := by omega
                    have hkc1 : k + 1 ≤ c := by omega
                    have hkt : k + 1 ≤ T.length := k1
                    obtain ⟨ad, had1, had2⟩ : ∃ ad : Addr, (c = k + 1 → ad = ⟨g0, 0, none⟩) ∧ (¬ c = k + 1 → ad = ⟨g0, (k + 1) * 5, none⟩) := by
                      by_cases h : c = k + 1
                      · exact ⟨_, fun _ => rfl, fun h' => absurd h h'⟩
                      · exact ⟨_, fun h' => absurd h' h, fun _ => rfl⟩
                    have hsn : Hid (∀ y, Own y (.slice (some ⟨g0, 0, none⟩) T.length c) T → Seen y (some ad) (T.drop (k + 1))) := Lib.hid fun y hy => by
                      by_cases h : c = k + 1
                      · rw [List.drop_eq_nil_of_le (by omega)]
                        exact Seen.nil _ _
                      · rw [had2 h]
                        have hh := hy.seen.drop (k + 1)
                        rw [Nat.zero_add] at hh
                        exact hh
                    clear f1 HFn O5
                    obtain ⟨rfl, rfl⟩ | ⟨hcc, rfl⟩ : (c = k + 1 ∧ ad = ⟨g0, 0, none⟩) ∨ (¬ c = k + 1 ∧ ad = ⟨g0, (k + 1) * 5, none⟩) := by
                      by_cases h : c = k + 1
                      · exact .inl ⟨h, had1 h⟩
                      · exact .inr ⟨h, had2 h⟩
                    all_goals
                      have hi1 : (k : Int) ≤ (k : Int) + 1 := by omega
                      have hi2 : (0 : Int) ≤ (k : Int) + 1 := by omega
                      have hi3 : (k : Int) + 1 ≤ (T.length : Int) := by omega
                      have hi4 : (0 : Int) ≤ (k : Int) + 1 ∧ (k : Int) + 1 ≤ (T.length : Int) := ⟨hi2, hi3⟩
                      clear had1 had2
                      go_wp2_with fail
                      go_region_held3 (fun _ => True) (trivial)
                        (first
                          | (refine step_append_cels (by rfl) (.const (.slice none 0 0)) (.tmp 114) (by rfl) (.slice none 0 0) [] (by rfl) (Own.nil _) ⟨g0, 0, none⟩ k _ (T.take k) (by rfl) (by rw [List.length_take]; omega) ((O6.out _ (by first | exact (Kept.refl _ _).drewN _ | exact (Kept.refl _ _).drew | exact Kept.refl _ _)).seen.take k) (by rw [List.length_take]; simp only [List.length_nil]; omega) ?_; intro v7 x7 o7 g7 b7; have h7 := Lib.hid (half1 HFd.out HTb.out (H5.out.keep0 (by first | exact (Kept.refl _ _).drewN _ | exact (Kept.refl _ _).drew | exact Kept.refl _ _)) (O6.out _ (by first | exact (Kept.refl _ _).drewN _ | exact (Kept.refl _ _).drew | exact Kept.refl _ _)) o7 g7 b7); clear o7 g7 b7)
                          | (refine step_append_cels (by rfl) (.tmp 115) (.tmp 119) (by rfl) v7 (T.take k) (by rfl) (half_keep h7.out (by first | exact (Kept.refl _ _).drewN _ | exact (Kept.refl _ _).drew | exact Kept.refl _ _)).2.2.1 _ _ _ (T.drop (k + 1)) (by rfl) (by rw [List.length_drop] <;> omega) (hsn.out _ (half_keep h7.out (by first | exact (Kept.refl _ _).drewN _ | exact (Kept.refl _ _).drew | exact Kept.refl _ _)).2.1) (by rw [List.length_take, List.length_drop]; omega) ?_; intro v8 x8 o8 g8 b8; have h8 := Lib.hid (half2 HFd.out HTb.out (half_keep h7.out (by first | exact (Kept.refl _ _).drewN _ | exact (Kept.refl _ _).drew | exact Kept.refl _ _)) o8 g8 b8 K3.out T5.out hT cs vw); clear o8 g8 b8))
                      all_goals
                        go_wp2_with fail
                        go_meet
                        case rel => exact h8
                  · obtain ⟨q1, q2, q3⟩ := drop_none (w := w) (x := x4) (s := s) (l := l) R4.out.perm hp hz
                    subst q1 q2
                    rw [q3] at HFn
                    have hA : Hid (After w x5 s l cs' vw (.slice A T.length c) (.int .i64 3) j ((n : Int) / 2)) := Lib.hid
                      ⟨3, cs', T, rfl, H5.out, ⟨O5.out, R4.out.fresh, R4.out.perm⟩, by omega, fun _ => ⟨rfl, W5.out⟩, T5.out⟩
                    clear hz q3 e1 e2 e3 h5 k5 hp ht H4 W4 B4 B5 W5 O5 H5 T5 R4
                    go_wp2_with fail
                    refine HFn.out.mono ?_
                    rintro e x6 ⟨rfl, rfl⟩
                    clear f1 HFn
                    go_wp2_with fail
                    go_meet
                    case rel => exact hA
                · have hb0 : (sd == 0) = false := by simpa using h0
                  have hb1 : (sd == 1) = false := by simpa using h1
                  have hA : Hid (After w x4 s l cs vw u11 (.int .i64 0) j ((n : Int) / 2)) := Lib.hid
                    ⟨0, cs, T, rfl, H4.out, R4.out, by omega, fun h => absurd rfl h, HTo.out⟩
                  clear h0 h1 e1 e2 e3
                  go_wp2_with fail
                  go_meet
                  case rel => exact hA
            case rest =>
              obtain ⟨e, cs', T', rfl, h5, hr5, hT5, hcs, ht5⟩ := hcut.out
              obtain ⟨Av, cv, rfl, _⟩ := back_own (Kept.refl [] _) hr5.own
              have hlc : cs'.length ≤ 32768 := let ⟨_, _, h⟩ := tiled_of h5; h
              have H5 := Lib.hid h5
              have R5 := Lib.hid hr5
              have T5 := Lib.hid ht5
              have C5 := Lib.hid hcs
              clear hcut h5 hr5 ht5 hcs H4 R4 B4 W4 HTo
              go_wp2_with fail
              refine (one_cells H5.out).mono ?_
              rintro e' x6 ⟨vn, rfl, hn6, _, k6⟩
              obtain ⟨An, cn, rfl, _⟩ := back_own (Kept.refl [] _) hn6
              have HTi : Hid (∀ y, Kept [] x6 y → Calls Tryz.prog 14 #[.slice An cs'.length cn, .int .i64 ((n : Int) / 2)] y fun e z => e = .returned (.bool true) ∧ y = z) := Lib.hid fun y hy => by
                obtain ⟨ws, hws⟩ := one_tiled H5.out T5.out
                exact tiles_ok cs' (hn6.seen.keep0 hy) _ hws (by omega) (by omega)
              have HTl : Hid (∀ y, Kept [] x6 y → Calls Tryz.prog 15 #[.slice An cs'.length cn, .slice Av T'.length cv] y fun e z => e = .returned (.bool true) ∧ Kept [] y z) := Lib.hid fun y hy =>
                told_ok cs' T' (hn6.seen.keep0 hy) (R5.out.own.keep0 (k6.trans hy)).seen (told_of H5.out R5.out.perm) (by omega) (by omega)
              have HS : Hid (e ≠ 0 → ∃ Aw cw, vw = .slice Aw cs'.length cw ∧ ∀ y, Kept [] x6 y → Calls Tryz.prog 13 #[.slice Aw cs'.length cw, .slice An cs'.length cn] y fun e z => e = .returned (.bool true) ∧ Kept [] y z) := Lib.hid fun he => by
                obtain ⟨h1, h2⟩ := C5.out he
                rw [← h1] at h2
                obtain ⟨Aw, cw, hvw, _⟩ := back_own (Kept.refl [] _) h2
                rw [hvw] at h2
                exact ⟨Aw, cw, hvw, fun y hy => same_ok cs' (h2.keep0 (k6.trans hy)).seen (hn6.seen.keep0 hy) (by omega)⟩
              have H6 := Lib.hid (H5.out.keep0 k6)
              have R6 := Lib.hid (R5.out.keep0 k6)
              have N6 := Lib.hid hn6.seen
              have HRd := Lib.hid (one_reads H6.out)
              clear k6 hn6 H5 R5 C5
              go_upto_region 28 with fail
              go_cut [143] (fun vv wx => Hid (vv = .bool false ∧ Kept [] x6 wx))
              case first =>
                have hd := HD.out
                by_cases he : e = 0
                · subst he
                  clear HS
                  go_wp2_with fail
                  refine (HTi.out _ (Kept.refl _ _)).mono ?_
                  rintro e' x7 ⟨rfl, rfl⟩
                  go_wp2_with fail
                  refine (HTl.out _ (Kept.refl _ _)).mono ?_
                  rintro e' x8 ⟨rfl, k8⟩
                  have hM := Lib.hid k8
                  clear k8
                  go_wp2_with fail
                  go_meet
                  case rel => exact Lib.hid ⟨rfl, hM.out⟩
                · obtain ⟨Aw, cw, rfl, hsame⟩ := HS.out he
                  have hb1 : (e != 0) = true := by simpa using he
                  have HSm := Lib.hid hsame
                  clear hsame HS he
                  go_wp2_with fail
                  refine (HSm.out _ (Kept.refl _ _)).mono ?_
                  rintro e' x7 ⟨rfl, k7⟩
                  have K7 := Lib.hid k7
                  clear k7 HSm
                  go_wp2_with fail
                  refine (HTi.out _ K7.out).mono ?_
                  rintro e' x8 ⟨rfl, rfl⟩
                  go_wp2_with fail
                  refine (HTl.out _ K7.out).mono ?_
                  rintro e' x8 ⟨rfl, k8⟩
                  have hM := Lib.hid (K7.out.trans k8)
                  clear k8
                  go_wp2_with fail
                  go_meet
                  case rel => exact Lib.hid ⟨rfl, hM.out⟩
              case rest =>
                obtain ⟨rfl, k8⟩ := hcut.out
                have K8 := Lib.hid k8
                clear hcut k8 HTi HTl HS HD
                go_wp2_with fail
                go_loopw [20] (fun t wr => ∃ k : Nat, t = .int .i64 (k : Int) ∧ k ≤ cs'.length ∧ Hid (Kept [] x6 wr)) (fun t _ => cs'.length - (intOf t).toNat)
                case atStart => exact ⟨0, rfl, Nat.zero_le _, K8⟩
                case round =>
                  clear K8
                  obtain ⟨k, rfl, hk, hrk⟩ := hrel
                  by_cases hlk : k < cs'.length
                  · obtain ⟨g, f, rfl, hg, c0, c1, _, _, _⟩ := (N6.out.keep0 hrk.out).at k hlk _ rfl
                    have hcm := cel_mem hlk
                    have HC : Hid (∀ z, Kept [] x6 z → z.cell? ⟨g, f + k * 5, none⟩ = some (.int .i64 (cs'.getD k Cel.zero).a) ∧ z.cell? ⟨g, f + k * 5 + 1, none⟩ = some (.int .u8 (cs'.getD k Cel.zero).h.tg)) := Lib.hid fun z hz => by
                      obtain ⟨g', f', e, _, q0, q1, _⟩ := (N6.out.keep0 hz).at k hlk _ rfl
                      injection e with e
                      injection e with e1 e2
                      subst e1 e2
                      exact ⟨q0, q1⟩
                    have HR := Lib.hid (fun y hy => (HRd.out y hy).mono fun (e : Ending) z ⟨p, he, hk, hc⟩ => (show ∃ p, e = Ending.returned (.pointer (some ⟨p, 0, none⟩)) ∧ Kept [] y z ∧ Hid (∀ u, Kept [] z u → Calls Tryz.prog 17 #[.pointer (some ⟨p, 0, none⟩), .int .i64 (cs'.getD k Cel.zero).a] u fun (e : Ending) v => e = Ending.returned (.bool (decide ((cs'.getD k Cel.zero).h.tg = 1))) ∧ Kept [] u v) from ⟨p, he, hk, Lib.hid (hc _ hcm)⟩))
                    generalize cs'.getD k Cel.zero = cc at hcm c0 c1 HC HR
                    obtain ⟨xa, ⟨xt, xy, xl, xz⟩⟩ := cc
                    simp only at c0 c1 HC HR
                    obtain ⟨b, hb1, hb2⟩ : ∃ b : Bool, (xt == 1) = b ∧ decide (xt = 1) = b := ⟨_, rfl, by by_cases h : xt = 1 <;> simp [h]⟩
                    rw [hb2] at HR
                    have CS : Hid (∀ y, Kept [] x6 y → Calls Tryz.prog 16 #[.pointer (some ⟨s.sp, 0, none⟩)] y fun e z => ∃ p, e = .returned (.pointer (some ⟨p, 0, none⟩)) ∧ Kept [] y z ∧ Kept [] x6 z ∧ Hid (∀ u, Kept [] z u → Calls Tryz.prog 17 #[.pointer (some ⟨p, 0, none⟩), .int .i64 xa] u fun e v => e = .returned (.bool b) ∧ Kept [] x6 v ∧ v.cell? ⟨g, f + k * 5, none⟩ = some (.int .i64 xa) ∧ v.cell? ⟨g, f + k * 5 + 1, none⟩ = some (.int .u8 xt)) ∧ z.cell? ⟨g, f + k * 5, none⟩ = some (.int .i64 xa) ∧ z.cell? ⟨g, f + k * 5 + 1, none⟩ = some (.int .u8 xt)) := Lib.hid fun y hy => by
                      refine (HR.out y hy).mono ?_
                      rintro e z ⟨p, he, hyz, hh⟩
                      have hz := HC.out z (hy.trans hyz)
                      refine ⟨p, he, hyz, hy.trans hyz, Lib.hid fun u hu => ?_, hz.1, hz.2⟩
                      refine (hh.out u hu).mono ?_
                      rintro e v ⟨he, huv⟩
                      have hv := HC.out v (((hy.trans hyz).trans hu).trans huv)
                      exact ⟨he, ((hy.trans hyz).trans hu).trans huv, hv.1, hv.2⟩
                    have hr0 := hrk.out
                    clear hrk HC HR H6 R6 T5 HRd hcm hb2
                    cases b
                    all_goals
                      go_wp2_with fail
                      go_region_held3 (fun y => y.cell? ⟨g, f + k * 5, none⟩ = some (.int .i64 xa) ∧ y.cell? ⟨g, f + k * 5 + 1, none⟩ = some (.int .u8 xt)) (go_keep)
                        (first
                          | (go_at_call 16; refine (CS.out _ ?_).mono ?_; (first | exact hz0 | exact hz0.drewN _ | exact hr0 | exact hr0.drewN _); rintro e z1 ⟨p, rfl, hz1, hz0, hHas, r0, r1⟩)
                          | (go_at_call 17; refine (hHas.out _ ?_).mono ?_; (first | exact Kept.refl _ _ | exact (Kept.refl _ _).drewN _); rintro e z2 ⟨rfl, hv0, r2, r3⟩))
                      all_goals
                        have HK3 := Lib.hid hv0
                        clear hv0 hz0 hz1 hHas r0 r1 r2 r3 hr0 CS c0 c1 hb1
                        go_wp2_with fail
                        go_roundw
                        case rel => exact ⟨k + 1, by go_num, by omega, HK3⟩
                        case measure => simp [intOf] <;> omega
                  · obtain rfl : k = cs'.length := by omega
                    have HA2 : Hid (Has1 w wr s l cs' ∧ Row w wr (.slice Av T'.length cv) T' cs' ∧ tot cs' = (n : Int) / 2) := Lib.hid ⟨H6.out.keep0 hrk.out, R6.out.keep0 hrk.out, T5.out⟩
                    clear hrk H6 R6 N6 T5 HRd
                    go_wp2_with fail
                    go_roundw
                    case rel => exact ⟨j + 1, T', cs', by go_num, by omega, by omega, HA2⟩
                    case measure => simp [intOf] <;> omega
          · obtain rfl : j = L.length := by omega
            have K5 := Lib.hid hr.out.1.kept
            clear hr
            go_wp2_with fail
            refine (HA.out _ K5.out).mono ?_
            rintro e y ⟨rfl, hk⟩
            have HK := Lib.hid (K5.out.trans hk)
            clear hk
            go_wp2_with fail
            go_ret
            exact ⟨rfl, HK.out⟩
    · have hb1 : ((newF [] l).2 != 0) = true := by rw [bne_iff_ne]; exact h0
      have K1 := Lib.hid k1
      generalize (newF [] l).2 = er at *
      clear h0 k1 HNt
      go_wp2_with fail
      refine (new_nil a0 x1).mono ?_
      rintro e x2 ⟨rfl, rfl⟩
      go_wp2_with fail
      refine (HA.out _ K1.out).mono ?_
      rintro e y ⟨rfl, hk⟩
      have HK := Lib.hid (K1.out.trans hk)
      clear hk
      go_wp2_with fail
      go_ret
      exact ⟨rfl, HK.out⟩
end
end Go.Proofs.YtfdombfdgpclcaaGreatDoor.Sp
