/-
  The contract of appendType; a row of bytes that grows, and its string.
-/
import Derived.Test.YtkplagnmdjaajaaTbRow
import Derived.Test.YtkplagnmdjaajaaByRow
import Derived.Laws.BytesArg
namespace Go.Proofs.Ytkplagnmdjaajaa.Tb
open Go.RowKit Go.Proofs.Ytkplagnmdjaajaa.Ar Go.Maps
set_option linter.unusedVariables false

/-- Byte k of a mask. -/
def mb (ms k : Nat) : Int := (ms : Int) / 2 ^ (k * 8) % 256
def maskTo (ms : Nat) : Nat → List Int
  | 0 => []
  | k + 1 => maskTo ms k ++ [mb ms k]
/-- A type's encoding. -/
def encT (x : Ty) : List Int := [(x.k : Int), x.wd] ++ maskTo x.ms 8
def encL : List Ty → List Int
  | [] => []
  | x :: l => encT x ++ encL l
theorem encL_append : ∀ a b : List Ty, encL (a ++ b) = encL a ++ encL b
  | [], b => rfl
  | x :: a, b => by
    show encT x ++ encL (a ++ b) = encT x ++ encL a ++ encL b
    rw [encL_append a b, List.append_assoc]
def enc (l : List Ty) : List Int := (l.length : Int) :: encL l
theorem maskTo_length (ms : Nat) : ∀ k, (maskTo ms k).length = k
  | 0 => rfl
  | k + 1 => by
    show (maskTo ms k ++ [_]).length = k + 1
    rw [List.length_append, maskTo_length ms k]
    rfl
theorem encT_length (x : Ty) : (encT x).length = 10 := by
  show ([_, _] ++ maskTo x.ms 8).length = 10
  rw [List.length_append, maskTo_length]
  rfl
theorem encL_length : ∀ l : List Ty, (encL l).length = l.length * 10
  | [] => rfl
  | x :: l => by
    show (encT x ++ encL l).length = (l.length + 1) * 10
    rw [List.length_append, encT_length, encL_length l]
    omega
/-- A row of bytes of a caller's that has grown. -/
def Grew (y : World) (v : Value) (bs : List Int) (v' : Value) (w' : World) : Prop :=
  By.Own w' v' bs ∧ Kept v.ownBlock.toList y w' ∧ ∀ b, v'.ownBlock = some b → v.ownBlock = some b ∨ y.heap.size ≤ b
theorem Grew.refl {y : World} {v : Value} {bs : List Int} (h : By.Own y v bs) : Grew y v bs v y := ⟨h, Kept.refl _ y, fun b h => .inl h⟩
theorem Grew.later {y w w' : World} {v v' : Value} {bs : List Int} (h : Grew y v bs v' w) (k : Kept [] w w') : Grew y v bs v' w' := ⟨h.1.keep0 k, h.2.1.trans (k.none _), h.2.2⟩
theorem Grew.step {y w w2 : World} {v v' v2 : Value} {bs bs2 : List Int} (h : Grew y v bs v' w) (hO : By.Own w2 v2 bs2) (hg : w.grownBy w2 v'.ownBlock) (hb : v2.ownBlock = v'.ownBlock ∨ v2.ownBlock = some w.heap.size) : Grew y v bs2 v2 w2 := by
  refine ⟨hO, h.2.1.grown hg fun g e => (h.2.2 g e).imp (fun e => by rw [e]; simp) id, fun b e => ?_⟩
  rcases hb with hb | hb
  · exact h.2.2 b (by rw [← hb]; exact e)
  · right
    rw [hb] at e
    injection e with e
    rw [← e]
    exact h.2.1.more
theorem Grew.trans {y w w2 : World} {v v' v2 : Value} {bs bs2 : List Int} (h : Grew y v bs v' w) (k : Grew w v' bs2 v2 w2) : Grew y v bs2 v2 w2 := by
  refine ⟨k.1, ⟨k.2.1.os.trans h.2.1.os, k.2.1.tape.trans h.2.1.tape, k.2.1.out.trans h.2.1.out, Nat.le_trans h.2.1.more k.2.1.more, fun i hi hS => ?_⟩, fun b e => ?_⟩
  · refine (k.2.1.old i (Nat.lt_of_lt_of_le hi h.2.1.more) fun hS2 => ?_).trans (h.2.1.old i hi hS)
    have e : v'.ownBlock = some i := by simpa using hS2
    rcases h.2.2 i e with e | e
    · exact hS (by rw [e]; simp)
    · omega
  · rcases k.2.2 b e with e | e
    · exact h.2.2 b e
    · exact .inr (Nat.le_trans h.2.1.more e)
theorem Grew.before {y y' w' : World} {v v' : Value} {bs : List Int} (h : Grew y v bs v' w') (k : Kept [] y' y) : Grew y' v bs v' w' := ⟨h.1, (k.none _).trans h.2.1, fun b e => (h.2.2 b e).imp id fun h => Nat.le_trans k.more h⟩
theorem u8_id (n : Int) (h0 : 0 ≤ n) (h1 : n < 256) : IntKind.u8.wrap n = n := by
  rw [IntKind.wrap_u8]
  omega
set_option maxRecDepth 100000 in
set_option maxHeartbeats 4000000 in
theorem appendType_ok {w : World} {v : Value} {bs : List Int} (h : By.Own w v bs) (x : Ty) (hx : 0 ≤ x.wd ∧ x.wd < 256) (hm : x.ms < 18446744073709551616) (hlen : bs.length ≤ 1000000) :
    Calls Try.prog 30 #[v, x.val] w fun e w' => ∃ v', e = .returned v' ∧ Grew w v (bs ++ encT x) v' w' := by
  have hk0 : Kept [] w (w.alloc (.cells #[.int .u8 (x.k : Int), .int .i64 x.wd, .int .u64 (x.ms : Int)] 30)) := (Kept.refl [] w).alloc _
  have hb0 : Has (w.alloc (.cells #[.int .u8 (x.k : Int), .int .i64 x.wd, .int .u64 (x.ms : Int)] 30)) w.heap.size 30 [.int .u8 (x.k : Int), .int .i64 x.wd, .int .u64 (x.ms : Int)] := Has.new w _ _
  have hlt : ∀ b, v.ownBlock = some b → b < w.heap.size := fun b e => (World.ownsRow.lt h b e).2
  have hgr0 : Grew (w.alloc (.cells #[.int .u8 (x.k : Int), .int .i64 x.wd, .int .u64 (x.ms : Int)] 30)) v bs v (w.alloc (.cells #[.int .u8 (x.k : Int), .int .i64 x.wd, .int .u64 (x.ms : Int)] 30)) := Grew.refl (h.keep0 hk0)
  have HB : Hid (∀ s wr l, Grew (w.alloc (.cells #[.int .u8 (x.k : Int), .int .i64 x.wd, .int .u64 (x.ms : Int)] 30)) v l s wr → Has wr w.heap.size 30 [.int .u8 (x.k : Int), .int .i64 x.wd, .int .u64 (x.ms : Int)]) := Lib.hid fun s wr l hg => hb0.kept hg.2.1 fun hi => Nat.lt_irrefl _ (hlt _ (by simpa using hi))
  unfold Ty.val
  have hw8 := u8_id x.wd hx.1 hx.2
  have HG0 := Lib.hid hgr0
  have HK0 := Lib.hid hk0
  have c0 := fun o => cells3 (hb0.alloc o)
  have c1 := fun o => (c0 o).1
  have c2 := fun o => (c0 o).2.1
  obtain ⟨c3, c4, c5⟩ := cells3 hb0
  clear h hgr0 hk0 hb0 hlt c0
  have HSe : Hid (By.Seen ((w.alloc (.cells #[.int .u8 (x.k : Int), .int .i64 x.wd, .int .u64 (x.ms : Int)] 30)).alloc (.cells #[.int .u8 (x.k : Int), .int .u8 x.wd] 5)) (some ⟨w.heap.size + 1, 0, none⟩) [(x.k : Int), x.wd]) := Lib.hid (by
    have := By.Row.seen (Has.new (w.alloc (.cells #[.int .u8 (x.k : Int), .int .i64 x.wd, .int .u64 (x.ms : Int)] 30)) 5 (By.ints [(x.k : Int), x.wd]))
    rwa [World.size_alloc] at this)
  have HO := Lib.hid (HG0.out.1.keep0 ((Kept.refl [] (w.alloc (.cells #[.int .u8 (x.k : Int), .int .i64 x.wd, .int .u64 (x.ms : Int)] 30))).alloc (.cells #[.int .u8 (x.k : Int), .int .u8 x.wd] 5)))
  go_enter Try.func30, Try.ntmps30
  go_wp2_with (at_builtin; (refine By.append_numbers rfl (.tmp 6) (.tmp 12) rfl v bs rfl HO.out (some ⟨w.heap.size + 1, 0, none⟩) 2 2 [(x.k : Int), x.wd] rfl rfl (fun h => by cases h) HSe.out (by omega) ?_))
  intro s1 w1 hO1 hg1 hb1
  have hn := (HG0.out.later ((Kept.refl [] (w.alloc (.cells #[.int .u8 (x.k : Int), .int .i64 x.wd, .int .u64 (x.ms : Int)] 30))).alloc (.cells #[.int .u8 (x.k : Int), .int .u8 x.wd] 5))).step hO1 hg1 (by simpa using hb1)
  have HN := Lib.hid hn
  clear hO1 hg1 hb1 hn HSe HO c1 c2 c3 c4 c5
  go_wp2_with fail
  go_loopw [0, 14] (fun s t wr => ∃ j : Nat, t = .int .i64 (j : Int) ∧ j ≤ 8 ∧ Hid (Grew (w.alloc (.cells #[.int .u8 (x.k : Int), .int .i64 x.wd, .int .u64 (x.ms : Int)] 30)) v (bs ++ [(x.k : Int), x.wd] ++ maskTo x.ms j) s wr)) (fun _ t _ => 8 - (intOf t).toNat)
  case atStart => exact ⟨0, rfl, by decide, Lib.hid (by rw [show maskTo x.ms 0 = [] from rfl, List.append_nil]; exact HN.out)⟩
  case round =>
    obtain ⟨j, rfl, hj, hr⟩ := hrel
    clear HN
    by_cases hlt : j < 8
    · obtain ⟨c0, c1, c2⟩ := cells3 (HB.out _ _ _ hr.out)
      have hml := maskTo_length x.ms j
      have HSe : Hid (By.Seen (wr.alloc (.cells #[.int .u8 ((x.ms : Int) / 2 ^ (j * 8) % 256)] 5)) (some ⟨wr.heap.size, 0, none⟩) [(x.ms : Int) / 2 ^ (j * 8) % 256]) := Lib.hid (By.Row.seen (Has.new wr 5 (By.ints [(x.ms : Int) / 2 ^ (j * 8) % 256])))
      have HO := Lib.hid (hr.out.1.keep0 ((Kept.refl [] wr).alloc (.cells #[.int .u8 ((x.ms : Int) / 2 ^ (j * 8) % 256)] 5)))
      have hll : (bs ++ [(x.k : Int), x.wd] ++ maskTo x.ms j).length = bs.length + 2 + j := by rw [List.length_append, List.length_append, hml]; rfl
      generalize hL : bs ++ [(x.k : Int), x.wd] ++ maskTo x.ms j = L at *
      have HL := Lib.hid hL
      clear hL hml
      go_wp2_with (at_builtin; (refine By.append_numbers rfl (.tmp 17) (.tmp 24) rfl u0 L rfl HO.out (some ⟨wr.heap.size, 0, none⟩) 1 1 [(x.ms : Int) / 2 ^ (j * 8) % 256] rfl rfl (fun h => by cases h) HSe.out (by omega) ?_))
      intro s2 w2 hO2 hg2 hb2
      have hn := (hr.out.later ((Kept.refl [] wr).alloc (.cells #[.int .u8 ((x.ms : Int) / 2 ^ (j * 8) % 256)] 5))).step hO2 hg2 (by simpa using hb2)
      have HN : Hid (Grew (w.alloc (.cells #[.int .u8 (x.k : Int), .int .i64 x.wd, .int .u64 (x.ms : Int)] 30)) v (bs ++ [(x.k : Int), x.wd] ++ maskTo x.ms (j + 1)) s2 w2) := Lib.hid (by
        have e : bs ++ [(x.k : Int), x.wd] ++ maskTo x.ms (j + 1) = L ++ [(x.ms : Int) / 2 ^ (j * 8) % 256] := by
          rw [← HL.out, List.append_assoc _ (maskTo x.ms j)]
          rfl
        rw [e]
        exact hn)
      clear hO2 hg2 hb2 hn HSe HO c0 c1 c2 hr HL hll
      go_wp2_with fail
      go_roundw
      case rel => exact ⟨j + 1, by go_num, by omega, HN⟩
      case measure => simp [intOf] <;> omega
    · obtain rfl : j = 8 := by omega
      go_wp2_with fail
      go_ret
      refine ⟨_, rfl, ?_⟩
      have := hr.out.before HK0.out
      rw [List.append_assoc] at this
      exact this
end Go.Proofs.Ytkplagnmdjaajaa.Tb
