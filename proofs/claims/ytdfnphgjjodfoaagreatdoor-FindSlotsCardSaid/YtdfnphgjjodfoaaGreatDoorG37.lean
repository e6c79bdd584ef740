/-
  Several texts in one: SpDocSettle, SpSettle.
-/
import Derived.Test.YtdfnphgjjodfoaaGreatDoorG36
import Derived.Test.YtdfnphgjjodfoaaGreatDoorG21
import Derived.Test.YtdfnphgjjodfoaaGreatDoorG34
import Derived.Test.YtdfnphgjjodfoaaGreatDoorG25
import Derived.Test.YtdfnphgjjodfoaaGreatDoorG28
/-
  The contract of the document's Settle.
-/
namespace Go.Proofs.YtdfnphgjjodfoaaGreatDoor.Sp
open Go.RowKit Go.Proofs.YtdfnphgjjodfoaaGreatDoor.Ar Go.Proofs.YtdfnphgjjodfoaaGreatDoor.Sh
open Go.Proofs.YtdfnphgjjodfoaaGreatDoor.Hd (Hd Fields cells4 free4 fitL)
open Go.Proofs.YtdfnphgjjodfoaaGreatDoor.Tb (Ty cells3)
open Go.Proofs.YtdfnphgjjodfoaaGreatDoor.Kd (typV)
set_option linter.unusedVariables false
def sizes (os : List Cel) : List Int := os.map (fun c => c.h.sz)
theorem sizes_snoc (os : List Cel) (c : Cel) : sizes (os ++ [c]) = sizes os ++ [c.h.sz] := by simp [sizes]
theorem sizes_length (os : List Cel) : (sizes os).length = os.length := by simp [sizes]
theorem sizes_get {os : List Cel} {j : Nat} (h : j < os.length) : (sizes os).getD j 0 = (os.getD j Cel.zero).h.sz := by
  unfold sizes
  rw [List.getD_eq_getElem?_getD, List.getD_eq_getElem?_getD, List.getElem?_map, List.getElem?_eq_getElem h]
  rfl
/-- What is settled so far. -/
def Upto (ws : List Int) (l : List Ty) (gs : List Int) (j : Nat) (e : Int) (os : List Cel) : Prop :=
  os.length = j ∧ os.map (fun c => c.a) = gs.take j ∧ standL ws l 0 gs = (standL ws l e (gs.drop j)).map (fun r => os ++ r)
theorem int_drop {l : List Int} {j : Nat} (h : j < l.length) : l.drop j = l.getD j 0 :: l.drop (j + 1) := by
  rw [List.drop_eq_getElem_cons h, List.getD_eq_getElem?_getD, List.getElem?_eq_getElem h]
  rfl
theorem int_take {l : List Int} {j : Nat} (h : j < l.length) : l.take (j + 1) = l.take j ++ [l.getD j 0] := by
  rw [List.take_add_one, List.getD_eq_getElem?_getD, List.getElem?_eq_getElem h]
  rfl
theorem int_mem {l : List Int} {j : Nat} (h : j < l.length) : l.getD j 0 ∈ l := by
  rw [List.getD_eq_getElem?_getD, List.getElem?_eq_getElem h]
  exact List.getElem_mem h
theorem Upto.zero (ws : List Int) (l : List Ty) (gs : List Int) : Upto ws l gs 0 0 [] := ⟨rfl, rfl, by
  rw [List.drop_zero]
  cases standL ws l 0 gs <;> rfl⟩
theorem Upto.bad {ws : List Int} {l : List Ty} {gs : List Int} {j : Nat} {e : Int} {os : List Cel} (h : Upto ws l gs j e os) (hj : j < gs.length) (hb : ¬ (ofE ws l (gs.getD j 0) = 0 ∧ e ≤ gs.getD j 0)) : settleE ws l gs = 2 ∧ settleX ws l gs = ws := by
  have h1 : standL ws l 0 gs = none := by
    rw [h.2.2, int_drop hj]
    unfold standL
    rw [if_neg hb]
    rfl
  unfold settleE settleX
  rw [h1]
  exact ⟨rfl, rfl⟩
theorem Upto.next {ws : List Int} {l : List Ty} {gs : List Int} {j : Nat} {e : Int} {os : List Cel} (h : Upto ws l gs j e os) (hj : j < gs.length) (hb : ofE ws l (gs.getD j 0) = 0 ∧ e ≤ gs.getD j 0) :
    Upto ws l gs (j + 1) (gs.getD j 0 + (hdH ws (gs.getD j 0)).sz) (os ++ [⟨gs.getD j 0, hdH ws (gs.getD j 0)⟩]) := by
  refine ⟨by rw [List.length_append, h.1]; rfl, by rw [List.map_append, h.2.1, int_take hj]; rfl, ?_⟩
  rw [h.2.2, int_drop hj]
  conv => lhs; unfold standL
  rw [if_pos hb, Option.map_map]
  congr 1
  funext r
  simp
theorem Upto.done {ws : List Int} {l : List Ty} {gs : List Int} {e : Int} {os : List Cel} (h : Upto ws l gs gs.length e os) : standL ws l 0 gs = some os ∧ settleE ws l gs = 0 ∧ settleX ws l gs = becomeW ws 0 os (gran ws) := by
  have h1 : standL ws l 0 gs = some os := by
    rw [h.2.2, List.drop_length]
    unfold standL
    simp
  refine ⟨h1, ?_, ?_⟩
  · unfold settleE; rw [h1]; rfl
  · unfold settleX; rw [h1]
section
variable {x : World} {r q cap : Nat} {B : Option Addr} {d : Nat} {l : List Ty} {ws : List Int} {cs : List Cel}
theorem apart_int {w : World} {r g f : Nat} {T : TypeId} {a b : Value} {z : Int} (h : Has w r T [a, b]) (ha : ∀ n, a ≠ .int .i64 n) (hb : ∀ n, b ≠ .int .i64 n) (hc : w.cell? ⟨g, f, none⟩ = some (.int .i64 z)) : g ≠ r := by
  rintro rfl
  rw [h.cell] at hc
  match f, hc with
  | 0, hc => exact ha z (Option.some.inj hc)
  | 1, hc => exact hb z (Option.some.inj hc)
theorem own_apart {w : World} {v : Value} {l : List Int} {b : Nat} {T : TypeId} {cs : List Value} (h : Ir.Own w v l) (hb : Has w b T cs) (ht : T ≠ 3) : v.ownBlock ≠ some b := fun e => by
  obtain ⟨ds, hd⟩ := Ir.own_cells h b (by rw [e]; simp)
  exact Has.block_type hb hd ht rfl
set_option maxRecDepth 100000 in
set_option maxHeartbeats 8000000 in
theorem ssettle_ok (h : DSp x r q cap B d l ws) (hf : Fit x B l ws cs) (A : Option Addr) (gs : List Int) (ca : Nat) (hS : Ir.Seen x A gs) (hlen : gs.length ≤ 100000) :
    Calls Tryz.prog 65 #[.pointer (some ⟨r, 0, none⟩), .slice A gs.length ca] x fun e y => e = .returned (.int .i64 (settleE ws l gs)) ∧ Doc x y r q B d l (settleX ws l gs) := by
  have hsh := hf.short
  have hgr : 0 ≤ gran ws ∧ gran ws ≤ 32768 := by unfold gran; omega
  have HOf := Lib.hid (fun y (k : Kept [] x y) (g : Int) => sof_ok (h.keep0 k) (hf.keep0 k) g)
  have HD := Lib.hid h
  have HSe := Lib.hid hS
  have HSc := Lib.hid (fun (g : Int) (he : ofE ws l g = 0) => stand_cell he)
  have HSt := Lib.hid (fun (os : List Cel) (he : standL ws l 0 gs = some os) => standing_of he hgr.1)
  have hrx := h.head.lt
  have H0 : Hid (Upto ws l gs 0 0 [] ∧ Ir.Own x (.slice none 0 0) (sizes []) ∧ Sh.FreshV x (.slice none 0 0) ∧ Kept [] x x) := Lib.hid ⟨Upto.zero _ _ _, Ir.Own.nil _, .inl rfl, Kept.refl _ _⟩
  have HLay : Hid (∀ y q' cap' ws', DSp y r q' cap' B d l ws' → ws'.length = ws.length → ∀ f e : Int, 0 ≤ f → f ≤ e → e ≤ gran ws → Calls Tryz.prog 88 #[.pointer (some ⟨r, 0, none⟩), .int .i64 f, .int .i64 (e - f)] y fun e1 y1 => (∃ v, e1 = .returned v) ∧ Doc y y1 r q' B d l (gapS ws' f e)) := Lib.hid fun y q' cap' ws' hd hl f e h1 h2 h3 => by
    have h4 := lay_ok hd (by omega) f (e - f) h1 (fun _ => by rw [gran_eq hl]; omega) (by omega)
    rw [show f + (e - f) = e by omega] at h4
    exact h4
  have HEd : Hid ((ws.length : Int).tdiv 2 = gran ws) := Lib.hid (Int.tdiv_eq_ediv_of_nonneg (by omega))
  clear h hf hS
  go_enter Tryz.func65, Tryz.ntmps65
  go_wp2_with fail
  go_loopw [5, 6, 7] (fun v f t wr => ∃ (j : Nat) (ev : Int) (os : List Cel), t = .int .i64 (j : Int) ∧ f = .int .i64 ev ∧ j ≤ gs.length ∧ 0 ≤ ev ∧ ev ≤ gran ws ∧ Hid (Upto ws l gs j ev os ∧ Ir.Own wr v (sizes os) ∧ Sh.FreshV x v ∧ Kept [] x wr)) (fun _ _ t _ => gs.length - (intOf t).toNat)
  case atStart => exact ⟨0, 0, [], rfl, rfl, Nat.zero_le _, Int.le_refl _, hgr.1, H0⟩
  case round =>
    obtain ⟨j, ev, os, rfl, rfl, hj, e0, e1, hr⟩ := hrel
    clear H0
    by_cases hlt : j < gs.length
    · obtain ⟨ga, fa, rfl, hgl, hcells⟩ := HSe.out (by rintro rfl; cases hlt)
      obtain ⟨g, hg⟩ : ∃ g, g = gs.getD j 0 := ⟨_, rfl⟩
      have HAt : Hid (∀ y, Kept [] x y → y.cell? ⟨ga, fa + j, none⟩ = some (.int .i64 g)) := Lib.hid fun y k => by
        rw [World.cell?_of_block (w := x) (k.old ga hgl (by simp)), hg]
        exact hcells j _ (Ir.ints_get gs j hlt)
      have HGj := Lib.hid hg
      clear hcells hg
      have HK := Lib.hid hr.out.2.2.2
      have hco := HOf.out wr HK.out g
      obtain ⟨d0, d1, f0⟩ := (HD.out.keep0 HK.out).cells
      have a0 := HAt.out wr HK.out
      have hsc := HSc.out g
      obtain ⟨L, hL⟩ : ∃ L, ws.length = L := ⟨_, rfl⟩
      obtain ⟨M, hM⟩ : ∃ M, l.length = M := ⟨_, rfl⟩
      have hv : docH ws l g = if ofE ws l g = 0 then hdH ws g else Hd.zero := rfl
      obtain ⟨er, her⟩ : ∃ er, ofE ws l g = er := ⟨_, rfl⟩
      have HVz : Hid (er = 0 → (docH ws l g).sz = (hdH ws g).sz) := Lib.hid fun h0 => by rw [hv, her, if_pos h0]
      obtain ⟨⟨vt, vy, vl, vz⟩, hvh⟩ : ∃ v, docH ws l g = v := ⟨_, rfl⟩
      obtain ⟨⟨tk, tw, tm⟩, htt⟩ : ∃ t, docT ws l g = t := ⟨_, rfl⟩
      rw [hvh, htt, her, hL, hM] at hco
      rw [hvh] at HVz
      rw [hL] at d0
      rw [hM] at d1
      rw [her] at hsc
      unfold Hd.val Tb.Ty.val at hco
      simp only at hco HVz
      have HO2 : Hid (∀ y, Kept [] wr y → Calls Tryz.prog 104 #[.slice (some ⟨q, 0, none⟩) L cap, .slice B M d, .int .i64 g] y fun e z => e = .returned (.tuple #[.agg #[.int .u8 vt, .int .i64 vy, .int .i64 vl, .int .i64 vz], .agg #[.int .u8 (tk : Int), .int .i64 tw, .int .u64 (tm : Int)], .int .i64 er]) ∧ Kept [] y z ∧ z.cell? ⟨r, 0, none⟩ = some (.slice (some ⟨q, 0, none⟩) L cap) ∧ z.cell? ⟨r, 1, none⟩ = some (.slice B M d) ∧ z.cell? ⟨ga, fa + j, none⟩ = some (.int .i64 g)) := Lib.hid fun y k => by
        have h1 := HOf.out y (HK.out.trans k) g
        rw [hvh, htt, her, hL, hM] at h1
        refine h1.mono fun e z ⟨he, hk⟩ => ⟨he, hk, ?_, ?_, HAt.out z ((HK.out.trans k).trans hk)⟩
        · rw [← hL]; exact (HD.out.keep0 ((HK.out.trans k).trans hk)).cells.1
        · rw [← hM]; exact (HD.out.keep0 ((HK.out.trans k).trans hk)).cells.2.1
      have HER := Lib.hid her
      have HLL := Lib.hid hL
      have HUp := Lib.hid hr.out.1
      have HOw := Lib.hid hr.out.2.1
      have HFr := Lib.hid hr.out.2.2.1
      have hx0 : Kept [] wr wr := Kept.refl _ _
      have hmo := HK.out.more
      have n1 : wr.heap.size ≠ r := by omega
      have n2 : wr.heap.size + 1 ≠ r := by omega
      have n5 : wr.heap.size ≠ ga := by omega
      have n6 : wr.heap.size + 1 ≠ ga := by omega
      clear hr hco hv hvh htt her hL hM hmo HOf
      go_upto_region 6 with fail
      go_cut [8, 9, 10] (fun a b c wx => ∃ b1 b2, a = .pointer (some ⟨b1, 0, none⟩) ∧ b = .pointer (some ⟨b2, 0, none⟩) ∧ c = .int .i64 er ∧ Hid (Two wr wx b1 b2 [.int .u8 vt, .int .i64 vy, .int .i64 vl, .int .i64 vz] [.int .u8 (tk : Int), .int .i64 tw, .int .u64 (tm : Int)]))
      case first =>
        go_region_held3 (fun y => y.cell? ⟨r, 0, none⟩ = some (.slice (some ⟨q, 0, none⟩) L cap) ∧ y.cell? ⟨r, 1, none⟩ = some (.slice B M d) ∧ y.cell? ⟨ga, fa + j, none⟩ = some (.int .i64 g)) (go_keep)
          (first | (go_at_call 104; refine (HO2.out _ (by first | exact hx0.drew | exact (hx0.alloc _).drew | exact ((hx0.alloc _).alloc _).drew)).mono ?_; rintro e z1 ⟨rfl, hz1, r0, r1, r2⟩; have n3 : z1.heap.size ≠ r := Nat.ne_of_gt (World.block_lt_of_cell? z1 _ r0); have n4 : z1.heap.size + 1 ≠ r := Nat.ne_of_gt (Nat.lt_succ_of_lt (World.block_lt_of_cell? z1 _ r0)); have p0 : z1.heap.size ≠ ga := Nat.ne_of_gt (World.block_lt_of_cell? z1 _ r2); have p1 : z1.heap.size + 1 ≠ ga := Nat.ne_of_gt (Nat.lt_succ_of_lt (World.block_lt_of_cell? z1 _ r2)); (first | (obtain ⟨hh, ht⟩ := box_ht hz1; obtain ⟨i0, i1, i2, i3⟩ := cells4 hh; obtain ⟨j0, j1, j2⟩ := cells3 ht; obtain ⟨fi0, fi1, fi2, fi3⟩ := free4 hh; obtain ⟨fj0, fj1, fj2⟩ := Tb.free3 ht; have kht := Lib.hid (And.intro hh (And.intro ht hz1)); clear hh ht hz1) | (obtain ⟨ht, hh⟩ := box_th hz1; obtain ⟨i0, i1, i2, i3⟩ := cells4 hh; obtain ⟨j0, j1, j2⟩ := cells3 ht; obtain ⟨fi0, fi1, fi2, fi3⟩ := free4 hh; obtain ⟨fj0, fj1, fj2⟩ := Tb.free3 ht; have kth := Lib.hid (And.intro hh (And.intro ht hz1)); clear hh ht hz1) | (obtain ⟨hh, hlt9⟩ := box_h hz1; obtain ⟨i0, i1, i2, i3⟩ := cells4 hh; obtain ⟨fi0, fi1, fi2, fi3⟩ := free4 hh; have kh := Lib.hid (And.intro hh hz1); clear hh hz1) | (obtain ⟨ht, hlt9⟩ := box_t hz1; obtain ⟨j0, j1, j2⟩ := cells3 ht; obtain ⟨fj0, fj1, fj2⟩ := Tb.free3 ht; have kt := Lib.hid (And.intro ht hz1); clear ht hz1) | (have k0 := Lib.hid hz1; clear hz1))))
        all_goals
          clear r0 r1 r2 n3 n4 p0 p1
          go_wp2_with fail
          go_meet
          case rel =>
            first
            | with_reducible exact ⟨_, _, rfl, rfl, rfl, Lib.hid (two4 rfl rfl kht.out.1 kht.out.2.1 kht.out.2.2)⟩
            | with_reducible exact ⟨_, _, rfl, rfl, rfl, Lib.hid (two6 rfl rfl kth.out.1 kth.out.2.1 kth.out.2.2)⟩
            | with_reducible exact ⟨_, _, rfl, rfl, rfl, Lib.hid (two3 rfl kh.out.1 kh.out.2)⟩
            | with_reducible exact ⟨_, _, rfl, rfl, rfl, Lib.hid (two5 rfl kt.out.1 kt.out.2)⟩
            | with_reducible exact ⟨_, _, rfl, rfl, rfl, Lib.hid (two1 k0.out)⟩
            | with_reducible exact ⟨_, _, rfl, rfl, rfl, Lib.hid (two2 k0.out)⟩
      case rest =>
        obtain ⟨b1, b2, rfl, rfl, rfl, hcc⟩ := hcut
        obtain ⟨hb1, hb2, hk3⟩ := hcc.out
        have HB1 := Lib.hid hb1
        have HK3 := Lib.hid hk3
        have a1 := HAt.out wc (HK.out.trans hk3)
        have hjl : j < gs.length := hlt
        clear a0 d0 d1 f0 hcc hb2 HO2 hx0 n1 n2 n5 n6
        obtain ⟨i0, i1, i2, i3⟩ := cells4 hb1
        clear hb1 hk3
        by_cases her : er = 0
        · by_cases hge : ev ≤ g
          · obtain ⟨s1, s2, s3, s4, s5, s6⟩ := hsc her
            have hz := can_sz s2
            have hvz := HVz.out her
            rw [← hvz] at hz s6
            have hU := HUp.out.next hjl (by rw [← HGj.out]; exact ⟨by rw [HER.out]; exact her, hge⟩)
            rw [← HGj.out] at hU
            have HUp2 : Hid (os.length = j) := Lib.hid HUp.out.1
            have HU : Hid (Upto ws l gs (j + 1) (g + vz) (os ++ [⟨g, hdH ws g⟩]) ∧ (hdH ws g).sz = vz) := Lib.hid ⟨by rw [hvz]; exact hU, hvz.symm⟩
            clear s2 s3 s4 s5 hsc hvz hU HVz HER HUp HGj
            subst her
            have HNb : Hid (∀ y : World, Has (y.alloc (.cells #[.int .i64 vz] 3)) y.heap.size 3 [.int .i64 vz]) := Lib.hid fun y => Has.new y _ _
            have HOw2 := Lib.hid (HOw.out.keep0 (HK3.out.alloc (.cells #[.int .i64 vz] 3)))
            have HSn2 : Hid (Ir.Seen (wc.alloc (.cells #[.int .i64 vz] 3)) (some ⟨wc.heap.size, 0, none⟩) [vz]) := Lib.hid (Ir.Row.seen (HNb.out wc))
            have HK4 := Lib.hid ((HK.out.trans HK3.out).alloc (.cells #[.int .i64 vz] 3))
            have HB2 := Lib.hid (HB1.out.alloc (.cells #[.int .i64 vz] 3))
            have hol : (sizes os).length + 1 ≤ 1073741824 := by rw [sizes_length, HUp2.out]; omega
            go_wp2_with (at_builtin; (refine Ir.append_numbers rfl (.tmp 45) (.tmp 48) rfl u5 (sizes os) rfl HOw2.out (some ⟨wc.heap.size, 0, none⟩) 1 1 [vz] rfl rfl (fun h => by cases h) HSn2.out hol ?_))
            intro v' w5 o5 g5 b5
            have hk5 := own_grown HK4.out HFr.out g5
            have hf5 := own_fresh (v' := v') HK4.out HFr.out (by rw [World.size_alloc]; exact b5)
            have hne : b1 ∉ u5.ownBlock.toList := fun hm => by
              obtain ⟨ds, hd⟩ := Ir.own_cells HOw2.out _ hm
              exact Has.block_type HB2.out hd (by decide) rfl
            have hB5 := HB2.out.kept (kept_grown g5) hne
            clear i0 i1 i2 i3 a1
            obtain ⟨i0, i1, i2, i3⟩ := cells4 hB5
            have a2 := HAt.out _ hk5
            have HN : Hid (Upto ws l gs (j + 1) (g + vz) (os ++ [⟨g, hdH ws g⟩]) ∧ (∀ n, Ir.Own (w5.drewN n) v' (sizes (os ++ [⟨g, hdH ws g⟩]))) ∧ Sh.FreshV x v' ∧ ∀ n, Kept [] x (w5.drewN n)) := Lib.hid ⟨HU.out.1, fun n => by rw [sizes_snoc, HU.out.2]; exact o5, hf5, fun n => hk5.drewN n⟩
            clear o5 g5 b5 hk5 hf5 hne hB5 hol HU HOw2 HSn2 HK4 HB2 HOw HFr HB1 HK3 HK HNb HUp2 HAt
            have hwr : IntKind.i64.wrap (g + vz) = g + vz := by rw [IntKind.wrap_i64]; omega
            go_wp2_with fail
            go_quiet (fail)
            clear i0 i1 i2 i3 a2 hwr
            go_wp2_with fail
            go_roundw
            case rel => exact ⟨j + 1, g + vz, _, by go_num, rfl, by omega, by omega, by omega, Lib.hid ⟨HN.out.1, HN.out.2.1 _, HN.out.2.2.1, HN.out.2.2.2 _⟩⟩
            case measure => simp [intOf] <;> omega
          · obtain ⟨z1, z2⟩ := HUp.out.bad hjl (by rw [← HGj.out]; exact fun hh => hge hh.2)
            have HE := Lib.hid (And.intro z1 z2)
            have hlt2 : g < ev := by omega
            clear z1 z2 hsc hge
            subst her
            go_wp2_with fail
            go_ret
            exact ⟨ret_int HE.out.1.symm, by rw [HE.out.2]; exact Doc.same HD.out (HK.out.trans HK3.out)⟩
        · obtain ⟨z1, z2⟩ := HUp.out.bad hjl (by rw [← HGj.out]; exact fun hh => her (by rw [← HER.out]; exact hh.1))
          have HE := Lib.hid (And.intro z1 z2)
          have hb : (er != 0) = true := by rw [bne_iff_ne]; exact her
          clear z1 z2 hsc her
          go_wp2_with fail
          go_ret
          exact ⟨ret_int HE.out.1.symm, by rw [HE.out.2]; exact Doc.same HD.out (HK.out.trans HK3.out)⟩
    · obtain rfl : j = gs.length := by omega
      obtain ⟨hU, hO, hFr, hK⟩ := hr.out
      obtain ⟨z1, z2, z3⟩ := hU.done
      have hos : os.length = gs.length := hU.1
      have HMa : Hid (os.map (fun c => c.a) = gs) := Lib.hid (by have := hU.2.1; rwa [List.take_length] at this)
      have HE := Lib.hid (And.intro z2 z3)
      have hst := HSt.out os z1
      have HOw := Lib.hid hO
      have HK := Lib.hid hK
      have hur : Hid (u5.ownBlock ≠ some r) := Lib.hid (own_apart hO (HD.out.keep0 hK).head (by decide))
      obtain ⟨wo, rfl⟩ : ∃ wo, wo = wr := ⟨_, rfl⟩
      have H1 : Hid (∃ q' cap' ws', DSp wo r q' cap' B d l ws' ∧ ws'.length = ws.length ∧ becomeW ws 0 os (gran ws) = becomeW ws' 0 (os.drop 0) (gran ws) ∧ Standing ws' l 0 (os.drop 0) (gran ws) ∧ (q' = q ∨ x.heap.size ≤ q') ∧ Kept [r] wo wo) := Lib.hid ⟨q, cap, ws, HD.out.keep0 hK, rfl, rfl, hst, .inl rfl, Kept.refl _ _⟩
      clear hr hU hO hFr hK z1 z2 z3 hst HSt HSc HOf
      go_wp2_with fail
      go_loopw [6, 11] (fun f t wr => ∃ (j2 : Nat) (e2 : Int), f = .int .i64 e2 ∧ t = .int .i64 (j2 : Int) ∧ j2 ≤ gs.length ∧ 0 ≤ e2 ∧ e2 ≤ gran ws ∧ Hid (∃ q' cap' ws', DSp wr r q' cap' B d l ws' ∧ ws'.length = ws.length ∧ becomeW ws 0 os (gran ws) = becomeW ws' e2 (os.drop j2) (gran ws) ∧ Standing ws' l e2 (os.drop j2) (gran ws) ∧ (q' = q ∨ x.heap.size ≤ q') ∧ Kept [r] wo wr)) (fun _ t _ => gs.length - (intOf t).toNat)
      case atStart => exact ⟨0, 0, rfl, rfl, Nat.zero_le _, Int.le_refl _, hgr.1, H1⟩
      case round =>
        clear H1
        obtain ⟨j2, e2, rfl, rfl, hj2, e20, e21, hr⟩ := hrel
        obtain ⟨q', cap', ws', hd, hl', hb', hs', hq', hk'⟩ := hr.out
        by_cases hlt : j2 < gs.length
        · obtain ⟨ga, fa, rfl, hgl, hcells⟩ := HSe.out (by rintro rfl; cases hlt)
          have hol : j2 < os.length := by omega
          have hca : gs.getD j2 0 = (os.getD j2 Cel.zero).a := by
            have h1 := congrArg (fun z : List Int => z.getD j2 0) HMa.out
            simp only [List.getD_eq_getElem?_getD, List.getElem?_map, List.getElem?_eq_getElem hol] at h1
            rw [List.getD_eq_getElem?_getD, List.getD_eq_getElem?_getD, List.getElem?_eq_getElem hol]
            exact h1.symm
          have hszv := sizes_get hol
          rw [cel_drop hol] at hb' hs'
          have hcc := hcells j2 _ (Ir.ints_get gs j2 hlt)
          rw [hca] at hcc
          have hgar : ga ≠ r := apart_int HD.out.head (fun n hh => by cases hh) (fun n hh => by cases hh) hcc
          have HAt : Hid (∀ y, Kept [r] wo y → y.cell? ⟨ga, fa + j2, none⟩ = some (.int .i64 (os.getD j2 Cel.zero).a)) := Lib.hid fun y k => by
            rw [World.cell?_of_block (w := wo) (k.old ga (Nat.lt_of_lt_of_le hgl HK.out.more) (by simpa using hgar)), World.cell?_of_block (w := x) (HK.out.old ga hgl (by simp))]
            exact hcc
          obtain ⟨gz, cz, hu5, hgz, hcz, _⟩ : ∃ g cap, u5 = .slice (some ⟨g, 0, none⟩) (sizes os).length cap ∧ g < wo.heap.size ∧ (sizes os).length ≤ cap ∧ cap ≤ maxLen := by
            rcases HOw.out.form with ⟨_, hh⟩ | hh
            · have h0 : (sizes os).length = 0 := by rw [hh]; rfl
              rw [sizes_length] at h0
              omega
            · exact hh
          subst hu5
          have HZt : Hid (∀ y, Kept [r] wo y → y.cell? ⟨gz, j2, none⟩ = some (.int .i64 (os.getD j2 Cel.zero).h.sz)) := Lib.hid fun y k => by
            have h1 := HOw.out.kept k (fun g hg => by rw [List.mem_singleton.1 hg]; exact hur.out)
            rw [← hszv]
            exact Ir.Own.cell h1 j2 _ (Ir.ints_get _ j2 (by rw [sizes_length]; exact hol))
          rw [sizes_length, hos] at *
          obtain ⟨t1, t2, t3, t4, t5, t6⟩ := hs'
          have hle := t6.le
          have hz := can_sz t2
          have hGe : gran ws' = gran ws := gran_eq hl'
          have HL := Lib.hid (HLay.out wr q' cap' ws' hd hl' e2 (os.getD j2 Cel.zero).a e20 t1 (by omega))
          have HNx : Hid (becomeW ws 0 os (gran ws) = becomeW (gapS ws' e2 (os.getD j2 Cel.zero).a) ((os.getD j2 Cel.zero).a + (os.getD j2 Cel.zero).h.sz) (os.drop (j2 + 1)) (gran ws) ∧ Standing (gapS ws' e2 (os.getD j2 Cel.zero).a) l ((os.getD j2 Cel.zero).a + (os.getD j2 Cel.zero).h.sz) (os.drop (j2 + 1)) (gran ws) ∧ (gapS ws' e2 (os.getD j2 Cel.zero).a).length = ws.length) :=
            Lib.hid ⟨hb', t6.keep fun b hb => gapS_at e20 (show (os.getD j2 Cel.zero).a ≤ (ws'.length : Int) / 2 from by have : gran ws' = (ws'.length : Int) / 2 := rfl; omega) (by omega) (.inl (by omega)), (gapS_length _ _ _).trans hl'⟩
          have HQ := Lib.hid (And.intro hq' hk')
          have c1 := HAt.out wr hk'
          clear hr hd hb' hq' hk' t2 t3 t4 t5 t6 hcc hca hszv hl' hGe hcells
          generalize gapS ws' e2 (os.getD j2 Cel.zero).a = ws2 at *
          generalize os.getD j2 Cel.zero = c at *
          obtain ⟨xa, ⟨xt, xy, xl, xz⟩⟩ := c
          simp only at *
          go_wp2_with fail
          refine HL.out.mono ?_
          rintro e y ⟨⟨v9, rfl⟩, q2, cap2, h7, hq7, k7⟩
          have hky := HQ.out.2.trans k7
          have hqq : q2 = q ∨ x.heap.size ≤ q2 := by
            rcases hq7 with rfl | hq7
            · exact HQ.out.1
            · have := HK.out.more; have := HQ.out.2.more; exact .inr (by omega)
          clear c1
          have c1 := HAt.out y hky
          have c2 := HZt.out y hky
          have HN : Hid (∀ n, ∃ q' cap' ws', DSp (y.drewN n) r q' cap' B d l ws' ∧ ws'.length = ws.length ∧ becomeW ws 0 os (gran ws) = becomeW ws' (xa + xz) (os.drop (j2 + 1)) (gran ws) ∧ Standing ws' l (xa + xz) (os.drop (j2 + 1)) (gran ws) ∧ (q' = q ∨ x.heap.size ≤ q') ∧ Kept [r] wo (y.drewN n)) :=
            Lib.hid fun n => ⟨q2, cap2, ws2, h7.keep0 ((Kept.refl [] y).drewN n), HNx.out.2.2, HNx.out.1, HNx.out.2.1, hqq, hky.drewN n⟩
          have hwr : IntKind.i64.wrap (xa + xz) = xa + xz := by rw [IntKind.wrap_i64]; omega
          clear h7 hq7 k7 hky hqq HL HNx HQ HAt HZt
          go_wp2_with fail
          go_quiet (fail)
          clear c1 c2 hwr
          go_wp2_with fail
          go_roundw
          case rel => exact ⟨j2 + 1, xa + xz, rfl, by go_num, by omega, by omega, by omega, Lib.hid (HN.out _)⟩
          case measure => simp [intOf] <;> omega
        · obtain rfl : j2 = gs.length := by omega
          rw [List.drop_eq_nil_of_le (by omega)] at hb' hs'
          have hse : e2 ≤ gran ws := hs'
          have HL := Lib.hid (HLay.out wr q' cap' ws' hd hl' e2 (gran ws) e20 hse (Int.le_refl _))
          have HX : Hid (becomeW ws 0 os (gran ws) = gapS ws' e2 (gran ws)) := Lib.hid hb'
          have HQ := Lib.hid (And.intro hq' hk')
          obtain ⟨c0, c1, f0⟩ := hd.cells
          rw [hl'] at c0
          have ed := HEd.out
          clear hr hd hl' hb' hs' hq' hk'
          generalize ws.length = L at *
          generalize gran ws = G at *
          go_wp2_with fail
          refine HL.out.mono ?_
          rintro e y ⟨⟨v9, rfl⟩, q2, cap2, h7, hq7, k7⟩
          have HEnd : Hid (Doc x y r q B d l (gapS ws' e2 G)) := Lib.hid ⟨q2, cap2, h7, by
            rcases hq7 with rfl | hq7
            · exact HQ.out.1
            · have := HK.out.more; have := HQ.out.2.more; exact .inr (by omega), ((HK.out.none _).trans HQ.out.2).trans k7⟩
          clear h7 hq7 k7 HL
          go_wp2_with fail
          go_ret
          exact ⟨ret_int HE.out.1.symm, by rw [HE.out.2, HX.out]; exact HEnd.out⟩
end
end Go.Proofs.YtdfnphgjjodfoaaGreatDoor.Sp

/-
  The contracts of Table, standing and Settle.
-/
namespace Go.Proofs.YtdfnphgjjodfoaaGreatDoor.Sp
open Go.RowKit Go.Proofs.YtdfnphgjjodfoaaGreatDoor.Ar Go.Proofs.YtdfnphgjjodfoaaGreatDoor.Sh
open Go.Proofs.YtdfnphgjjodfoaaGreatDoor.Hd (Hd Fields cells4 free4 fitL)
open Go.Proofs.YtdfnphgjjodfoaaGreatDoor.Tb (Ty Tab cells3)
open Go.Proofs.YtdfnphgjjodfoaaGreatDoor.Wd (Table)
set_option linter.unusedVariables false
theorem Upto.none {ws : List Int} {l : List Ty} {gs : List Int} {j : Nat} {e : Int} {os : List Cel} (h : Upto ws l gs j e os) (hj : j < gs.length) (hb : ¬ (ofE ws l (gs.getD j 0) = 0 ∧ e ≤ gs.getD j 0)) : standL ws l 0 gs = Option.none := by
  rw [h.2.2, int_drop hj]
  unfold standL
  rw [if_neg hb]
  rfl
theorem standing_most {ws : List Int} {l : List Ty} : ∀ {cs : List Cel} {f e : Int}, Standing ws l f cs e → 0 ≤ f → e ≤ 32768 → cs.length ≤ 32768 := by
  have key : ∀ (cs : List Cel) (f e : Int), Standing ws l f cs e → (cs.length : Int) + f ≤ e := by
    intro cs
    induction cs with
    | nil => intro f e h; have h : f ≤ e := h; simpa using h
    | cons c cs ih =>
      intro f e h
      have h1 := ih _ _ h.2.2.2.2.2
      have h2 := can_sz h.2.1
      have h3 := h.1
      rw [List.length_cons]
      omega
  intro cs f e h h0 he
  have := key cs f e h
  omega
section
variable {w : World} {s : Ids} {l : List Ty} {ws : List Int} {bs : List Bool}
set_option maxRecDepth 100000 in
theorem table_ok (h : Spc w s l ws bs) : Calls Tryz.prog 22 #[.pointer (some ⟨s.sp, 0, none⟩)] w fun e w' => e = .returned (.pointer (some ⟨s.tp, 0, none⟩)) ∧ w = w' := by
  obtain ⟨_, c1, _⟩ := h.cells
  clear h
  generalize s.sp = b at *
  generalize s.tp = d at *
  go_enter Tryz.func22, Tryz.ntmps22
  go_wp2_with fail
  go_ret
  exact ⟨rfl, rfl⟩
set_option maxRecDepth 100000 in
set_option maxHeartbeats 8000000 in
theorem standing_ok (hG : Glob w s) (h : Spc w s l ws bs) (A : Option Addr) (gs : List Int) (ca : Nat) (hS : Ir.Seen w A gs) (hI : ∀ g ∈ gs, -9223372036854775808 ≤ g ∧ g ≤ 9223372036854775807) (hlen : gs.length ≤ 100000) :
    Calls Tryz.prog 105 #[.pointer (some ⟨s.sp, 0, none⟩), .slice A gs.length ca] w fun e w' => Kept [] w w' ∧ ((standL ws l 0 gs = none ∧ e = .returned (.tuple #[.slice none 0 0, .bool false])) ∨ (∃ os v, standL ws l 0 gs = some os ∧ e = .returned (.tuple #[v, .bool true]) ∧ Own w' v os ∧ FreshV w v)) := by
  have hsh := h.short
  have hgr : 0 ≤ gran ws ∧ gran ws ≤ 32768 := by unfold gran; omega
  have HOf : Hid (∀ y, Kept [] w y → ∀ g : Int, -9223372036854775808 ≤ g → g ≤ 9223372036854775807 → Calls Tryz.prog 20 #[.pointer (some ⟨s.ap, 0, none⟩), .pointer (some ⟨s.tp, 0, none⟩), .int .i64 g] y (OfPost y s.ap ws l g)) := Lib.hid fun y k g g0 g1 => by
    obtain ⟨m, a⟩ := h.ar
    exact of_ok (hG.f.keep0 k) (a.keep0 k) h.wds (h.tab.keep0 k) g g0 g1
  have HC := Lib.hid (fun y (k : Kept [] w y) => (h.keep0 k).cells)
  have HSe := Lib.hid hS
  have HI := Lib.hid hI
  have HSc := Lib.hid (fun (g : Int) (he : ofE ws l g = 0) => stand_cell he)
  have H0 : Hid (Upto ws l gs 0 0 [] ∧ Own w (.slice none 0 0) [] ∧ FreshV w (.slice none 0 0) ∧ Kept [] w w) := Lib.hid ⟨Upto.zero _ _ _, Own.nil _, .inl rfl, Kept.refl _ _⟩
  have hlw := h.head.lt
  clear h hG hS hI
  generalize s.sp = sp at *
  generalize s.ap = ap at *
  generalize s.tp = tp at *
  generalize s.bp = bp at *
  go_enter Tryz.func105, Tryz.ntmps105
  go_wp2_with fail
  go_loopw [6, 7, 15] (fun v f t wr => ∃ (j : Nat) (ev : Int) (os : List Cel), t = .int .i64 (j : Int) ∧ f = .int .i64 ev ∧ j ≤ gs.length ∧ 0 ≤ ev ∧ ev ≤ gran ws ∧ Hid (Upto ws l gs j ev os ∧ Own wr v os ∧ FreshV w v ∧ Kept [] w wr)) (fun _ _ t _ => gs.length - (intOf t).toNat)
  case atStart => exact ⟨0, 0, [], rfl, rfl, Nat.zero_le _, Int.le_refl _, hgr.1, H0⟩
  case round =>
    obtain ⟨j, ev, os, rfl, rfl, hj, e0, e1, hr⟩ := hrel
    clear H0
    by_cases hlt : j < gs.length
    · obtain ⟨ga, fa, rfl, hgl, hcells⟩ := HSe.out (by rintro rfl; cases hlt)
      have hgi := HI.out _ (int_mem hlt)
      obtain ⟨g, hg⟩ : ∃ g, g = gs.getD j 0 := ⟨_, rfl⟩
      rw [← hg] at hgi
      have a0 : wr.cell? ⟨ga, fa + j, none⟩ = some (.int .i64 g) := by
        rw [World.cell?_of_block (w := w) (hr.out.2.2.2.old ga hgl (by simp)), hg]
        exact hcells j _ (Ir.ints_get gs j hlt)
      have HGj := Lib.hid hg
      clear hcells hg
      have HK := Lib.hid hr.out.2.2.2
      obtain ⟨d0, d1, _⟩ := HC.out wr HK.out
      have hsc := HSc.out g
      have HUp := Lib.hid hr.out.1
      have HOw := Lib.hid hr.out.2.1
      have HFr := Lib.hid hr.out.2.2.1
      have hx0 : Kept [] wr wr := Kept.refl _ _
      have hjl : j < gs.length := hlt
      by_cases her : ofE ws l g = 0
      · have HO2 : Hid (∀ y, Kept [] wr y → Calls Tryz.prog 20 #[.pointer (some ⟨ap, 0, none⟩), .pointer (some ⟨tp, 0, none⟩), .int .i64 g] y fun e z => ∃ v, e = .returned (.tuple #[.pointer (some ⟨v, 0, none⟩), .int .i64 0]) ∧ Hid (Sh.View z v ap g (hdH ws g) (ofT ws l g) (ofS ws l g) ∧ Kept [] wr z) ∧ z.cell? ⟨sp, 0, none⟩ = some (.pointer (some ⟨ap, 0, none⟩)) ∧ z.cell? ⟨sp, 1, none⟩ = some (.pointer (some ⟨tp, 0, none⟩))) := Lib.hid fun y k => by
          refine (HOf.out y (HK.out.trans k) g hgi.1 hgi.2).mono ?_
          rintro e z ⟨hk, ⟨h1, _⟩ | ⟨_, v, h2, h3, h4⟩⟩
          · exact absurd her h1
          · obtain ⟨c0, c1, _⟩ := HC.out z ((HK.out.trans k).trans hk)
            exact ⟨v, h2, Lib.hid ⟨h4, k.trans hk⟩, c0, c1⟩
        obtain ⟨s1, s2, s3, s4, s5, s6⟩ := hsc her
        have hz := can_sz s2
        by_cases hge : ev ≤ g
        · have HU := Lib.hid (HUp.out.next hjl (by rw [← HGj.out]; exact ⟨her, hge⟩))
          rw [← HGj.out] at HU
          have hol : os.length ≤ 100000 := by have := HUp.out.1; omega
          have HVh := Lib.hid (fun (z : World) v (hv : Sh.View z v ap g (hdH ws g) (ofT ws l g) (ofS ws l g)) => vhead_ok hv)
          have HBh := Lib.hid (fun X => behind_ok ⟨g, hdH ws g⟩ (by simp only; omega) (by simp only; omega) (by simp only; omega) (by simp only; omega) X)
          clear hr s2 s3 s4 s5 her hsc HOf HGj HUp
          generalize ofT ws l g = tt at *
          generalize ofS ws l g = ss at *
          generalize hdH ws g = hh at *
          obtain ⟨xt, xy, xl, xz⟩ := hh
          unfold Cel.val at HBh
          unfold Hd.val at HVh
          simp only at *
          go_wp2_with fail
          go_region_held3 (fun y => y.cell? ⟨sp, 0, none⟩ = some (.pointer (some ⟨ap, 0, none⟩)) ∧ y.cell? ⟨sp, 1, none⟩ = some (.pointer (some ⟨tp, 0, none⟩))) (go_keep)
            (first
              | (go_at_call 20; refine (HO2.out _ (by first | exact hx0.drew | exact hx0)).mono ?_; rintro e z1 ⟨v, rfl, hvv, r0, r1⟩))
          all_goals
            have HV1 := Lib.hid (HVh.out z1 v hvv.out.1)
            have HK1 := Lib.hid hvv.out.2
            clear hvv r0 r1 a0 d0 d1 HO2 hx0 HVh
            go_wp2_with fail
            refine HV1.out.mono ?_
            rintro e z2 ⟨rfl, k2⟩
            have hB2 : Has (z2.alloc (.cells #[.int .i64 g, .int .u8 xt, .int .i64 xy, .int .i64 xl, .int .i64 xz] 37)) z2.heap.size 37 [.int .i64 g, .int .u8 xt, .int .i64 xy, .int .i64 xl, .int .i64 xz] := Has.new z2 _ _
            have HK2 := Lib.hid (HK1.out.trans (k2.alloc (.cells #[.int .i64 g, .int .u8 xt, .int .i64 xy, .int .i64 xl, .int .i64 xz] 37)))
            have HB2 := Lib.hid hB2
            have HCb : Hid (wr.heap.size ≤ z2.heap.size) := Lib.hid (Nat.le_trans HK1.out.more k2.more)
            clear k2 hB2 HV1 HK1
            obtain ⟨c0, c1, c2, c3, c4⟩ := cells5 HB2.out
            have hka : Kept [] (z2.alloc (.cells #[.int .i64 g, .int .u8 xt, .int .i64 xy, .int .i64 xl, .int .i64 xz] 37)) ((z2.alloc (.cells #[.int .i64 g, .int .u8 xt, .int .i64 xy, .int .i64 xl, .int .i64 xz] 37)).alloc (.cells #[.int .i64 g, .int .u8 xt, .int .i64 xy, .int .i64 xl, .int .i64 xz] 37)) := (Kept.refl [] _).alloc _
            have hsn : Seen ((z2.alloc (.cells #[.int .i64 g, .int .u8 xt, .int .i64 xy, .int .i64 xl, .int .i64 xz] 37)).alloc (.cells #[.int .i64 g, .int .u8 xt, .int .i64 xy, .int .i64 xl, .int .i64 xz] 37)) (some ⟨(z2.alloc (.cells #[.int .i64 g, .int .u8 xt, .int .i64 xy, .int .i64 xl, .int .i64 xz] 37)).heap.size, 0, none⟩) [⟨g, ⟨xt, xy, xl, xz⟩⟩] := seen_one (x := ⟨g, ⟨xt, xy, xl, xz⟩⟩) (Has.new (z2.alloc (.cells #[.int .i64 g, .int .u8 xt, .int .i64 xy, .int .i64 xl, .int .i64 xz] 37)) _ _)
            rw [World.size_alloc] at hsn
            have HSn := Lib.hid hsn
            have HO3 := Lib.hid (HOw.out.keep0 (HK2.out.trans hka))
            have HK3 := Lib.hid ((HK.out.trans HK2.out).trans hka)
            have HB3 := Lib.hid (HB2.out.keep0 hka)
            clear hka hsn
            go_wp2_with (at_builtin; (refine append_cels rfl (.tmp 43) (.tmp 45) rfl u6 os rfl HO3.out (some ⟨z2.heap.size + 1, 0, none⟩) 1 [⟨g, ⟨xt, xy, xl, xz⟩⟩] rfl (fun h => by cases h) HSn.out (by rw [List.length_singleton]; omega) ?_))
            intro v' w5 o5 g5 b5 _
            have hk5 := own_grown HK3.out HFr.out g5
            have hf5 := own_fresh (v' := v') HK3.out HFr.out (by rw [World.size_alloc, World.size_alloc]; exact b5)
            have HN : Hid (∀ X, Kept [] w5 X → Upto ws l gs (j + 1) (g + xz) (os ++ [⟨g, ⟨xt, xy, xl, xz⟩⟩]) ∧ Own X v' (os ++ [⟨g, ⟨xt, xy, xl, xz⟩⟩]) ∧ FreshV w v' ∧ Kept [] w X) := Lib.hid fun X k => ⟨HU.out, o5.keep0 k, hf5, hk5.trans k⟩
            have hne : z2.heap.size ∉ u6.ownBlock.toList := fun hm => by
              rcases own_fresh HK.out HFr.out (.inl rfl) with hh | ⟨b, hh, _⟩
              · rw [hh] at hm; simp at hm
              · have h1 := HOw.out.lt b hh
                rw [hh] at hm
                have hcb : z2.heap.size = b := by simpa using hm
                have h2 := HCb.out
                omega
            have hB5 := HB3.out.kept (kept_grown g5) hne
            clear c0 c1 c2 c3 c4
            obtain ⟨c0, c1, c2, c3, c4⟩ := cells5 hB5
            clear o5 g5 b5 hk5 hf5 hne hB5 HU HO3 HSn HK3 HB3 HB2 HK2 HOw HFr HK
            go_wp2_with fail
            refine (HBh.out _).mono ?_
            rintro e w6 ⟨rfl, k6⟩
            have HN6 := Lib.hid (HN.out _ k6)
            clear k6 HN HBh c0 c1 c2 c3 c4
            go_wp2_with fail
            go_roundw
            case rel => exact ⟨j + 1, g + xz, _, by go_num, rfl, by omega, by omega, by omega, HN6⟩
            case measure => simp [intOf] <;> omega
        · have HE : Hid (standL ws l 0 gs = none) := Lib.hid (HUp.out.none hjl (by rw [← HGj.out]; exact fun hh => hge hh.2))
          have hlt2 : g < ev := by omega
          clear hr s2 s3 s4 s5 her hsc HOf HGj HUp hge
          generalize ofT ws l g = tt at *
          generalize ofS ws l g = ss at *
          generalize hdH ws g = hh at *
          go_wp2_with fail
          go_region_held3 (fun y => y.cell? ⟨sp, 0, none⟩ = some (.pointer (some ⟨ap, 0, none⟩)) ∧ y.cell? ⟨sp, 1, none⟩ = some (.pointer (some ⟨tp, 0, none⟩))) (go_keep)
            (first
              | (go_at_call 20; refine (HO2.out _ (by first | exact hx0.drew | exact hx0)).mono ?_; rintro e z1 ⟨v, rfl, hvv, r0, r1⟩))
          all_goals
            have HK1 := Lib.hid (HK.out.trans hvv.out.2)
            clear hvv r0 r1 a0 d0 d1 HO2 hx0
            go_wp2_with fail
            go_ret2
            exact ⟨HK1.out, .inl ⟨HE.out, rfl⟩⟩
      · have HE : Hid (standL ws l 0 gs = none) := Lib.hid (HUp.out.none hjl (by rw [← HGj.out]; exact fun hh => her hh.1))
        have HO2 : Hid (∀ y, Kept [] wr y → Calls Tryz.prog 20 #[.pointer (some ⟨ap, 0, none⟩), .pointer (some ⟨tp, 0, none⟩), .int .i64 g] y fun e z => e = .returned (.tuple #[.pointer none, .int .i64 (ofE ws l g)]) ∧ Kept [] wr z ∧ z.cell? ⟨sp, 0, none⟩ = some (.pointer (some ⟨ap, 0, none⟩)) ∧ z.cell? ⟨sp, 1, none⟩ = some (.pointer (some ⟨tp, 0, none⟩))) := Lib.hid fun y k => by
          refine (HOf.out y (HK.out.trans k) g hgi.1 hgi.2).mono ?_
          rintro e z ⟨hk, ⟨_, h2⟩ | ⟨h1, _⟩⟩
          · obtain ⟨c0, c1, _⟩ := HC.out z ((HK.out.trans k).trans hk)
            exact ⟨h2, k.trans hk, c0, c1⟩
          · exact absurd h1 her
        have hb : (ofE ws l g != 0) = true := by rw [bne_iff_ne]; exact her
        clear hr her hsc HOf HGj HUp
        generalize ofE ws l g = er at *
        go_wp2_with fail
        go_region_held3 (fun y => y.cell? ⟨sp, 0, none⟩ = some (.pointer (some ⟨ap, 0, none⟩)) ∧ y.cell? ⟨sp, 1, none⟩ = some (.pointer (some ⟨tp, 0, none⟩))) (go_keep)
          (first
            | (go_at_call 20; refine (HO2.out _ (by first | exact hx0.drew | exact hx0)).mono ?_; rintro e z1 ⟨rfl, hz1, r0, r1⟩))
        all_goals
          have HK1 := Lib.hid (HK.out.trans hz1)
          clear hz1 r0 r1 a0 d0 d1 HO2 hx0
          go_wp2_with fail
          go_ret2
          exact ⟨HK1.out, .inl ⟨HE.out, rfl⟩⟩
    · obtain rfl : j = gs.length := by omega
      have HEnd : Hid (∃ os, standL ws l 0 gs = some os ∧ Own wr u6 os ∧ FreshV w u6 ∧ Kept [] w wr) := Lib.hid ⟨os, hr.out.1.done.1, hr.out.2.1, hr.out.2.2.1, hr.out.2.2.2⟩
      clear hr
      go_wp2_with fail
      go_ret2
      obtain ⟨os, z1, z2, z3, z4⟩ := HEnd.out
      exact ⟨z4, .inr ⟨os, u6, z1, rfl, z2, z3⟩⟩
/-- Settle, of a space. -/
theorem settle_ok (hG : Glob w s) (h : Spc w s l ws bs) (A : Option Addr) (gs : List Int) (ca : Nat) (hS : Ir.Seen w A gs) (hI : ∀ g ∈ gs, -9223372036854775808 ≤ g ∧ g ≤ 9223372036854775807) (hlen : gs.length ≤ 100000) :
    Calls Tryz.prog 64 #[.pointer (some ⟨s.sp, 0, none⟩), .slice A gs.length ca] w fun e w' => e = .returned (.int .i64 (settleE ws l gs)) ∧ Kept s.turn w w' ∧ ((standL ws l 0 gs = none ∧ Spc w' s l ws bs) ∨ ∃ os, standL ws l 0 gs = some os ∧ Spc w' s l (becomeW ws 0 os (gran ws)) (becomeB bs 0 os (gran ws))) := by
  have hsh := h.short
  have hgr : 0 ≤ gran ws ∧ gran ws ≤ 32768 := by unfold gran; omega
  have HSt := Lib.hid (standing_ok hG h A gs ca hS hI hlen)
  have HSp := Lib.hid h
  have HGl := Lib.hid hG
  have HSd := Lib.hid (fun (os : List Cel) (he : standL ws l 0 gs = some os) => standing_of he hgr.1)
  clear h hG hS hI
  go_enter Tryz.func64, Tryz.ntmps64
  go_wp2_with fail
  refine HSt.out.mono ?_
  rintro e x1 ⟨k1, ⟨z1, rfl⟩ | ⟨os, v, z1, rfl, hO, hV⟩⟩
  · have HE : Hid (settleE ws l gs = 2) := Lib.hid (by unfold settleE; rw [z1]; rfl)
    have HZ := Lib.hid z1
    have HK := Lib.hid k1
    clear z1 k1
    go_wp2_with fail
    go_ret
    exact ⟨ret_int HE.out.symm, HK.out.none _, .inl ⟨HZ.out, HSp.out.keep0 HK.out⟩⟩
  · have HE : Hid (settleE ws l gs = 0) := Lib.hid (by unfold settleE; rw [z1]; rfl)
    have hsd := HSd.out os z1
    have HZ := Lib.hid z1
    have HK := Lib.hid k1
    have hol : os.length ≤ 32768 := standing_most hsd (Int.le_refl _) (by omega)
    have hnear : Near os := fun c hc => by
      obtain ⟨m1, m2, m3, _⟩ := hsd.mem c hc
      have := can_sz m3
      omega
    obtain ⟨Av, cv, rfl, _⟩ := back_own (Kept.refl [] _) hO
    have HGr := Lib.hid (granules_ok (HSp.out.keep0 k1))
    have HB := Lib.hid (become_ok (HGl.out.keep0 k1) (HSp.out.keep0 k1) 0 (gran ws) (Int.le_refl _) (by omega) hgr.1 (by omega) Av cv os hO.seen (fun g o e hm => by
      have hS1 := HSp.out.keep0 k1
      rcases hO.form with ⟨hh, _⟩ | ⟨g', c', hh, _⟩
      · injection hh with hh; rw [hh] at e; cases e
      · injection hh with hh
        rw [hh] at e
        injection e with e
        injection e with e
        subst e
        obtain ⟨ds, hd⟩ := own_cells hO g' (by rw [hh]; simp [Value.ownBlock])
        exact hS1.beside hd (by decide) (by decide) (by decide) hm) hnear (by omega))
    clear z1 k1 hO hV hsd hnear HSd
    obtain ⟨G, hGG⟩ : ∃ G, G = gran ws := ⟨_, rfl⟩
    rw [← hGG] at HGr HB hgr
    have HGG := Lib.hid hGG
    clear hGG
    go_wp2_with fail
    refine HGr.out.mono ?_
    rintro e x2 ⟨rfl, rfl⟩
    go_wp2_with fail
    refine HB.out.mono ?_
    rintro e x3 ⟨⟨v3, rfl⟩, hS3, k3⟩
    have HF := Lib.hid (And.intro hS3 ((HK.out.none s.turn).trans k3))
    clear hS3 k3 HB HGr
    go_wp2_with fail
    go_ret
    exact ⟨ret_int HE.out.symm, HF.out.2, .inr ⟨os, HZ.out, by rw [← HGG.out]; exact HF.out.1⟩⟩
end
end Go.Proofs.YtdfnphgjjodfoaaGreatDoor.Sp
