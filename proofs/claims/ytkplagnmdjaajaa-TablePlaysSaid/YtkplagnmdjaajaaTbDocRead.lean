/-
  The document's Read.
-/
import Derived.Test.YtkplagnmdjaajaaTbRead
import Derived.Test.YtkplagnmdjaajaaTbDoc
namespace Go.Proofs.Ytkplagnmdjaajaa.Tb
open Go.RowKit Go.Proofs.Ytkplagnmdjaajaa.Ar Go.Maps
set_option linter.unusedVariables false

theorem newF_good {l : List Ty} (acc : List Ty) (hf : ∀ x ∈ l, x.fit) (hl : acc.length + l.length ≤ 64) : newF acc l = (acc ++ l, 0) := by
  induction l generalizing acc with
  | nil => show (acc, 0) = _; rw [List.append_nil]
  | cons x l ih =>
    have hlen : acc.length + (l.length + 1) ≤ 64 := hl
    have he : addE acc x = 0 := by
      unfold addE
      rw [if_neg (by simpa using hf x (List.mem_cons_self ..)), if_neg (by omega)]
    have e : newF acc (x :: l) = newF (acc ++ [x]) l := if_pos he
    rw [e, ih _ (fun y hy => hf y (List.mem_cons_of_mem _ hy)) (by rw [List.length_append]; show acc.length + 1 + l.length ≤ 64; omega), List.append_assoc]
    rfl
theorem newF_zero {l : List Ty} (acc : List Ty) (h : (newF acc l).2 = 0) : (∀ x ∈ l, x.fit) ∧ (l ≠ [] → acc.length + l.length ≤ 64) := by
  induction l generalizing acc with
  | nil => exact ⟨fun x hx => (by cases hx), fun h => absurd rfl h⟩
  | cons x l ih =>
    by_cases he : addE acc x = 0
    · have e : newF acc (x :: l) = newF (acc ++ [x]) l := if_pos he
      rw [e] at h
      obtain ⟨h1, h2⟩ := ih _ h
      have hx : x.fit ∧ ¬ 64 ≤ acc.length := by
        unfold addE at he
        split at he
        · cases he
        · rename_i hx
          split at he
          · cases he
          · rename_i hl
            exact ⟨Classical.not_not.1 hx, hl⟩
      refine ⟨fun y hy => ?_, fun _ => ?_⟩
      · rcases List.mem_cons.1 hy with rfl | hy
        · exact hx.1
        · exact h1 y hy
      · show acc.length + (l.length + 1) ≤ 64
        by_cases hn : l = []
        · subst hn
          show acc.length + 1 ≤ 64
          omega
        · have := h2 hn
          rw [List.length_append] at this
          have : acc.length + 1 + l.length ≤ 64 := this
          omega
    · have e : newF acc (x :: l) = ([], addE acc x) := if_neg he
      rw [e] at h
      exact absurd h he
/-- Bytes as a number, the highest first. -/
def up (f : Nat → Nat) : Nat → Nat
  | 0 => 0
  | n + 1 => 256 * up f n + f (7 - n)
theorem up_step (f : Nat → Nat) {k : Nat} (h : k < 8) : up f (8 - k) = 256 * up f (8 - (k + 1)) + f k := by
  rw [show 8 - k = (8 - (k + 1)) + 1 by omega]
  show 256 * _ + f (7 - (8 - (k + 1))) = _
  rw [show 7 - (8 - (k + 1)) = k by omega]
theorem up_all (f : Nat → Nat) : up f 8 = num f 8 := by
  simp only [up, num, Nat.reduceSub, Nat.reduceMul, Nat.reducePow]
  omega
theorem up_lt {f : Nat → Nat} (h : ∀ i, f i < 256) : ∀ n, up f n < 2 ^ (n * 8)
  | 0 => Nat.one_pos
  | n + 1 => by
    have ih := up_lt h n
    have hf := h (7 - n)
    show 256 * up f n + f (7 - n) < 2 ^ ((n + 1) * 8)
    rw [Nat.add_mul, Nat.one_mul, Nat.pow_add]
    have e : (2 ^ 8 : Nat) = 256 := by decide
    rw [e]
    omega
theorem up_word {m b q n : Nat} (hn : n < 8) (hm : m < 2 ^ (n * 8)) (hb : b < 256) (hq : q = 256 * m + b) :
    IntKind.u64.wrap (IntKind.u64.wrap (256 * (m : Int)) + IntKind.u64.wrap (b : Int)) = (q : Int) := by
  have hp := pow_le hn
  have h1 : 256 * m + b < 18446744073709551616 := by omega
  simp only [IntKind.wrap_u64]
  omega
theorem readF_big {s : ByteArray} (h0 : ¬ s.size < 1) (h1 : s.size = 1 + bt s 0 * 10) (h : 64 < bt s 0) : readF s = ([], 7) := by
  unfold readF
  rw [if_neg (by omega), if_neg]
  intro h2
  have := (newF_zero _ h2).2 (by
    intro e
    have := congrArg List.length e
    rw [tysAt_length] at this
    simp at this
    omega)
  rw [tysAt_length] at this
  simp at this
  omega
theorem tysAt_mem {s : ByteArray} {o n j : Nat} (h : j < n) : decAt s (o + 10 * j) ∈ tysAt s o n := List.mem_map.2 ⟨j, List.mem_range.2 h, rfl⟩
theorem readF_bad {s : ByteArray} (h0 : ¬ s.size < 1) (h1 : s.size = 1 + bt s 0 * 10) {j : Nat} (hj : j < bt s 0) (h : ¬ (decAt s (1 + 10 * j)).fit) : readF s = ([], 7) := by
  unfold readF
  rw [if_neg (by omega), if_neg]
  intro h2
  exact h ((newF_zero _ h2).1 _ (tysAt_mem hj))
theorem readF_good {s : ByteArray} (h0 : ¬ s.size < 1) (h1 : s.size = 1 + bt s 0 * 10) (h2 : bt s 0 ≤ 64) (h : ∀ x ∈ tysAt s 1 (bt s 0), x.fit) : readF s = (tysAt s 1 (bt s 0), 0) := by
  have e := newF_good [] h (by rw [tysAt_length]; simpa using h2)
  rw [List.nil_append] at e
  unfold readF
  rw [if_neg (by omega), e, if_pos rfl]
set_option maxRecDepth 100000 in
set_option maxHeartbeats 8000000 in
theorem dread_ok (s : ByteArray) (hmax : s.size ≤ maxLen) (w : World) : Calls Try.prog 22 #[.string s] w (RowPost w (readF s)) := by
  unfold maxLen at hmax
  have hb := bt_get s
  have hb256 := bt_lt s 0
  have hw1 : wrap64 ((bt s 0 : Nat) : Int) = ((bt s 0 : Nat) : Int) := by unfold wrap64; omega
  by_cases h0 : s.size < 1
  · have e : readF s = ([], 7) := if_pos (.inl h0)
    rw [e]
    have hlt : (s.size : Int) < 1 := by omega
    clear e h0
    go_enter Try.func22, Try.ntmps22
    go_wp2_with fail
    go_ret2
    exact row_none (Kept.refl [] w)
  · have hlt : ¬ (s.size : Int) < 1 := by omega
    by_cases h1 : s.size = 1 + bt s 0 * 10
    · have hne : ((s.size : Int) != 1 + 10 * ((bt s 0 : Nat) : Int)) = false := by rw [bne_eq_false_iff_eq]; omega
      by_cases h2 : 64 < bt s 0
      · rw [readF_big h0 h1 h2]
        have hgt : (64 : Int) < ((bt s 0 : Nat) : Int) := by omega
        generalize bt s = f at *
        clear h0 h1 h2
        go_enter Try.func22, Try.ntmps22
        go_wp2_with fail
        go_ret2
        exact row_none (Kept.refl [] w)
      · have hgt : ¬ (64 : Int) < ((bt s 0 : Nat) : Int) := by omega
        have HG := Lib.hid (fun h => readF_good h0 h1 (by omega) h)
        have HB := Lib.hid (fun j (hj : j < bt s 0) h => readF_bad h0 h1 hj h)
        have HD : Hid (∀ o, decAt s o = ⟨bt s o, (bt s (o + 1) : Int), num (fun k => bt s (o + 2 + k)) 8⟩) := Lib.hid fun o => rfl
        have hf := bt_lt s
        have hsz : s.size = 1 + bt s 0 * 10 := h1
        generalize readF s = R at *
        have Hne := Lib.hid hne
        generalize bt s = f at *
        clear h0 h1
        go_enter Try.func22, Try.ntmps22
        go_wp2_with fail
        go_loopw [4, 5] (fun v t wr => ∃ j o : Nat, o = 1 + 10 * j ∧ t = .int .i64 (o : Int) ∧ j ≤ f 0 ∧ Hid ((∀ x ∈ tysAt s 1 j, x.fit) ∧ Own wr v (tysAt s 1 j) ∧ Fresh w v ∧ Kept [] w wr)) (fun _ t _ => s.size + 10 - (intOf t).toNat)
        case atStart => exact ⟨0, 1, rfl, rfl, Nat.zero_le _, Lib.hid ⟨fun x hx => (by cases hx), Own.nil _, .inl rfl, Kept.refl [] w⟩⟩
        case round =>
          obtain ⟨j, o, ho, rfl, hj, hr⟩ := hrel
          by_cases hlj : j < f 0
          · have hlo : o + 9 < s.size := by omega
            have hw2 : wrap64 ((f (o + 1) : Nat) : Int) = ((f (o + 1) : Nat) : Int) := by have := hf (o + 1); unfold wrap64; omega
            have HO := Lib.hid ho
            have HR := Lib.hid hr.out
            clear ho hr
            go_wp2_with fail
            go_region
            have hT := (Has.new wr 30 [.int .u8 (f o : Int), .int .i64 (f (o + 1) : Int), .int .u64 0]).drew
            have hk := ((Kept.refl [] wr).alloc (.cells #[.int .u8 (f o : Int), .int .i64 (f (o + 1) : Int), .int .u64 0] 30)).drew
            have hvb : u4.ownBlock ≠ some wr.heap.size := fun e => Nat.lt_irrefl _ (Own.lt HR.out.2.1 _ e)
            have HV := Lib.hid hvb
            have HS : Hid (Has _ wr.heap.size _ _ ∧ Own _ u4 (tysAt s 1 j) ∧ Kept [] w _) := Lib.hid ⟨hT, HR.out.2.1.keep0 hk, HR.out.2.2.2.trans hk⟩
            have HF := Lib.hid (And.intro HR.out.1 HR.out.2.2.1)
            have HBg : Hid (w.heap.size ≤ wr.heap.size) := Lib.hid HR.out.2.2.2.more
            clear hT hk hvb HR
            generalize hB0 : wr.heap.size = B at *
            clear hB0
            generalize hW : (wr.alloc (.cells #[.int .u8 (f o : Int), .int .i64 (f (o + 1) : Int), .int .u64 0] 30)).drew = W at *
            clear hW
            go_wp2_with fail
            go_loopw [7] (fun t wr => ∃ k : Nat, k ≤ 8 ∧ t = .int .i64 ((k : Int) - 1) ∧ Hid (Has wr B 30 [.int .u8 (f o : Int), .int .i64 (f (o + 1) : Int), .int .u64 (up (fun i => f (o + 2 + i)) (8 - k) : Int)] ∧ Own wr u4 (tysAt s 1 j) ∧ Kept [] w wr)) (fun t _ => (intOf t + 1).toNat)
            case atStart => exact ⟨8, by decide, rfl, HS⟩
            case round =>
              obtain ⟨k, hk, rfl, hr⟩ := hrel
              clear HS
              cases k with
              | zero =>
                have hle : f o < 256 := hf o
                have hx : decAt s o = ⟨f o, (f (o + 1) : Int), up (fun i => f (o + 2 + i)) (8 - 0)⟩ := by rw [HD.out, show (8 - 0 : Nat) = 8 from rfl, up_all]
                have hxok := decAt_ok s o
                have hxj : decAt s o = decAt s (1 + 10 * j) := by rw [HO.out]
                generalize hX : decAt s o = x at *
                have ek : ((0 : Nat) : Int) - 1 = -1 := rfl
                rw [ek]
                have hH : Has wr B 30 [.int .u8 (x.k : Int), .int .i64 x.wd, .int .u64 (x.ms : Int)] := by rw [hx]; exact hr.out.1
                have HM := Lib.hid (fun y => Kd.may_ok x.k x.wd x.ms hxok.2 y)
                unfold Kd.typV at HM
                have HXJ := Lib.hid hxj
                have HXO := Lib.hid hxok
                obtain ⟨c0, c1, c2⟩ := cells3 hH
                have HH := Lib.hid hH
                clear hx hX hxok hxj hH ek
                have hstep := Lib.hid (tysAt_succ s 1 j)
                by_cases hfit : x.fit
                · have hfd : decide (Kd.may x.k x.wd x.ms) = true := decide_eq_true hfit
                  rw [hfd] at HM
                  have HFit : Hid (∀ y ∈ tysAt s 1 (j + 1), y.fit) := Lib.hid (by
                    rw [hstep.out]
                    intro y hy
                    rcases List.mem_append.1 hy with hy | hy
                    · exact HF.out.1 y hy
                    · rw [List.mem_singleton.1 hy, ← HXJ.out]
                      exact hfit)
                  have HE : Hid (tysAt s 1 (j + 1) = tysAt s 1 j ++ [x]) := Lib.hid (by rw [hstep.out, ← HXJ.out])
                  have hll := tysAt_length s 1 j
                  generalize tysAt s 1 j = L at *
                  clear hfd hfit
                  go_wp2_with fail
                  refine (HM.out _).mono ?_
                  rintro e w1 ⟨rfl, hk1⟩
                  have HK0 := Lib.hid (hr.out.2.2.trans hk1)
                  have HO0 := Lib.hid (hr.out.2.1.keep0 hk1)
                  obtain ⟨e0, e1, e2⟩ := cells3 (HH.out.keep0 hk1)
                  have HKa := Lib.hid ((Kept.refl [] w1).alloc (.cells #[.int .u8 (x.k : Int), .int .i64 x.wd, .int .u64 (x.ms : Int)] 30))
                  have HSe : Hid (Seen (w1.alloc (.cells #[.int .u8 (x.k : Int), .int .i64 x.wd, .int .u64 (x.ms : Int)] 30)) (some ⟨w1.heap.size, 0, none⟩) [x]) := Lib.hid (seen_one (Has.new w1 30 [.int .u8 (x.k : Int), .int .i64 x.wd, .int .u64 (x.ms : Int)]))
                  have HOw := Lib.hid (HO0.out.keep0 HKa.out)
                  clear hk1 HM hr c0 c1 c2
                  go_wp2_with (at_builtin; (refine append_types rfl (.tmp 61) (.tmp 63) rfl u4 L rfl HOw.out (some ⟨w1.heap.size, 0, none⟩) 1 [x] rfl (fun h => by cases h) HSe.out (by simp only [List.length_cons, List.length_nil]; omega) ?_))
                  intro s2 w2 hO2 hG2 hB2 hn2
                  have hwk2 := HK0.out.trans HKa.out
                  have hF2 := own_fresh (v' := s2) hwk2 HF.out.2 (by rw [World.size_alloc]; exact hB2)
                  have hK2 := own_grown hwk2 HF.out.2 hG2
                  have HN : Hid ((∀ y ∈ tysAt s 1 (j + 1), y.fit) ∧ Own w2 s2 (tysAt s 1 (j + 1)) ∧ Fresh w s2 ∧ Kept [] w w2) := Lib.hid ⟨HFit.out, by rw [HE.out]; exact hO2, hF2, hK2⟩
                  clear hO2 hG2 hB2 hK2 hF2 HKa HSe HOw hwk2 hn2 HO0 HK0 HE e0 e1 e2
                  have hj1 : j + 1 ≤ f 0 := hlj
                  go_wp2_with fail
                  go_roundw
                  case rel => exact ⟨j + 1, o + 10, by rw [HO.out]; omega, by go_num, hj1, HN⟩
                  case measure => simp [intOf] <;> omega
                · have hfd : decide (Kd.may x.k x.wd x.ms) = false := decide_eq_false hfit
                  rw [hfd] at HM
                  have HBad : Hid (R = ([], 7)) := Lib.hid (HB.out j hlj (by rw [← HXJ.out]; exact hfit))
                  clear hfd hfit
                  go_wp2_with fail
                  refine (HM.out _).mono ?_
                  rintro e w1 ⟨rfl, hk1⟩
                  have HK := Lib.hid (hr.out.2.2.trans hk1)
                  clear hk1 HM hr c0 c1 c2
                  go_wp2_with fail
                  go_ret2
                  rw [HBad.out]
                  exact row_none HK.out
              | succ k =>
                have ek : ((k + 1 : Nat) : Int) - 1 = (k : Int) := by omega
                rw [ek]
                obtain ⟨c0, c1, c2⟩ := cells3 hr.out.1
                obtain ⟨f0, f1, f2⟩ := free3 hr.out.1
                have hlt3 : o + 2 + k < s.size := by omega
                have hup := up_step (fun i => f (o + 2 + i)) (k := k) (by omega)
                have hul := up_lt (f := fun i => f (o + 2 + i)) (fun i => hf _) (8 - (k + 1))
                have hword := up_word (n := 8 - (k + 1)) (b := f (o + 2 + k)) (by omega) hul (hf _) hup
                generalize up (fun i => f (o + 2 + i)) (8 - (k + 1)) = m at *
                generalize hQ : up (fun i => f (o + 2 + i)) (8 - k) = q at *
                have HQ := Lib.hid hQ
                clear ek hQ hul hup
                go_wp2_with fail
                go_region
                have hn := (hr.out.1.put 2 (.int .u64 (q : Int))).drew
                have hz := (hr.out.2.1.kept (((Kept.refl [B] wr).setCell ⟨B, 2, none⟩ (.int .u64 (q : Int)) (.inl (by simp))).drew) (fun g hg => by
                  obtain rfl := List.mem_singleton.1 hg
                  exact HV.out))
                have hk2 := (hr.out.2.2.setCell ⟨B, 2, none⟩ (.int .u64 (q : Int)) (.inr HBg.out)).drew
                have HN : Hid (Has _ B _ _ ∧ Own _ u4 _ ∧ Kept [] w _) := Lib.hid ⟨hn, hz, hk2⟩
                clear hn hz hk2 hr c0 c1 c2 f0 f1 f2 hword
                generalize (wr.setCell ⟨B, 2, none⟩ (.int .u64 (q : Int))).drew = W2 at *
                go_wp2_with fail
                go_roundw
                case rel => exact ⟨k, by omega, rfl, by rw [HQ.out]; exact HN⟩
                case measure => simp [intOf] <;> omega
          · obtain rfl : j = f 0 := by omega
            have hge : ¬ (o : Int) < 1 + 10 * ((f 0 : Nat) : Int) := by omega
            have HRG : Hid (R = (tysAt s 1 (f 0), 0)) := Lib.hid (HG.out hr.out.1)
            have hge2 : ¬ (o : Int) < (s.size : Int) := by omega
            obtain ⟨A', c', e4, hbk⟩ := back_own hr.out.2.2.2 hr.out.2.1
            have hfb : ∀ g ∈ blk A', w.heap.size ≤ g := fresh_blk (by rw [← e4]; exact hr.out.2.2.1)
            have HBK := Lib.hid (And.intro hbk hfb)
            have HE4 := Lib.hid e4
            clear ho hr e4 hbk hge hfb
            go_wp2_with fail
            go_ret2
            rw [HRG.out]
            exact ⟨A', c', by rw [← HE4.out]; rfl, HBK.out⟩
    · have e : readF s = ([], 7) := if_pos (.inr h1)
      rw [e]
      have hne : ((s.size : Int) != 1 + 10 * ((bt s 0 : Nat) : Int)) = true := by rw [bne_iff_ne]; omega
      generalize bt s = f at *
      clear e h0 h1
      go_enter Try.func22, Try.ntmps22
      go_wp2_with fail
      go_ret2
      exact row_none (Kept.refl [] w)
end Go.Proofs.Ytkplagnmdjaajaa.Tb
