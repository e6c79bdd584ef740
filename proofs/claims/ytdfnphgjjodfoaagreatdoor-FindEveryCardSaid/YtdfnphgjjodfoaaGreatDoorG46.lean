/-
  Several texts in one: FdSort, FdList.
-/
import Derived.Test.YtdfnphgjjodfoaaGreatDoorG21
import Derived.Shelf.Sort.Plain
import Derived.Shelf.Slices.In.SortNone
import Derived.Shelf.Slices.CompactI
import Derived.Sort.OwnSortedInts
import Derived.Lib.OwnBridge
import Derived.Test.YtdfnphgjjodfoaaGreatDoorG43
import Derived.Test.YtdfnphgjjodfoaaGreatDoorG45
/-
  Stage 11, find: the library's Sort and Compact over a row of numbers of the call's own: it rises behind them, each number once.
-/
namespace Go.Proofs.YtdfnphgjjodfoaaGreatDoor.Fd
open Go.RowKit Go.Proofs.YtdfnphgjjodfoaaGreatDoor.Ar
set_option linter.unusedVariables false

def laysSort_ren : Go.Shelf.Ren := ⟨fun | 189 => 39 | 125 => 75 | 257 => 74 | 128 => 119 | 129 => 120 | 294 => 110 | 295 => 111 | 296 => 112 | 297 => 113 | 298 => 114 | 299 => 115 | 216 => 116 | 300 => 117 | 301 => 118 | 328 => 147 | 329 => 148 | 330 => 149 | 331 => 150 | 332 => 151 | 215 => 152 | 343 => 171 | n => n, fun | 28 => 48 | 3 => 3 | 46 => 123 | 0 => 0 | 51 => 174 | 53 => 24 | 4 => 4 | 183 => 167 | 182 => 166 | 131 => 41 | 5 => 5 | 9 => 9 | 218 => 199 | 222 => 203 | 228 => 216 | 229 => 217 | n => n, fun | n => n⟩
theorem laysSort : Go.Proofs.Lays.n189 Tryz.prog laysSort_ren := {
  mixed := by kernel_rfl
  f125 := Tryz.func75.trans (congrArg some (by kernel_rfl))
  f128 := Tryz.func119.trans (congrArg some (by kernel_rfl))
  f129 := Tryz.func120.trans (congrArg some (by kernel_rfl))
  f189 := Tryz.func39.trans (congrArg some (by kernel_rfl))
  f215 := Tryz.func152.trans (congrArg some (by kernel_rfl))
  f216 := Tryz.func116.trans (congrArg some (by kernel_rfl))
  f257 := Tryz.func74.trans (congrArg some (by kernel_rfl))
  f294 := Tryz.func110.trans (congrArg some (by kernel_rfl))
  f295 := Tryz.func111.trans (congrArg some (by kernel_rfl))
  f296 := Tryz.func112.trans (congrArg some (by kernel_rfl))
  f297 := Tryz.func113.trans (congrArg some (by kernel_rfl))
  f298 := Tryz.func114.trans (congrArg some (by kernel_rfl))
  f299 := Tryz.func115.trans (congrArg some (by kernel_rfl))
  f300 := Tryz.func117.trans (congrArg some (by kernel_rfl))
  f301 := Tryz.func118.trans (congrArg some (by kernel_rfl))
  f328 := Tryz.func147.trans (congrArg some (by kernel_rfl))
  f329 := Tryz.func148.trans (congrArg some (by kernel_rfl))
  f330 := Tryz.func149.trans (congrArg some (by kernel_rfl))
  f331 := Tryz.func150.trans (congrArg some (by kernel_rfl))
  f332 := Tryz.func151.trans (congrArg some (by kernel_rfl))
  f343 := Tryz.func171.trans (congrArg some (by kernel_rfl))
  t0 := Tryz.underlying0
  a0 := Tryz.isAgg0
  z0 := Tryz.sizeOf0
  v0 := Tryz.zeroValue0
  t3 := Tryz.underlying3
  a3 := Tryz.isAgg3
  z3 := Tryz.sizeOf3
  v3 := Tryz.zeroValue3
  t4 := Tryz.underlying4
  a4 := Tryz.isAgg4
  z4 := Tryz.sizeOf4
  v4 := Tryz.zeroValue4
  t5 := Tryz.underlying5
  a5 := Tryz.isAgg5
  z5 := Tryz.sizeOf5
  v5 := Tryz.zeroValue5
  t9 := Tryz.underlying9
  a9 := Tryz.isAgg9
  z9 := Tryz.sizeOf9
  v9 := Tryz.zeroValue9
  t28 := Tryz.underlying48
  a28 := Tryz.isAgg48
  z28 := Tryz.sizeOf48
  v28 := Tryz.zeroValue48
  t46 := Tryz.underlying123
  a46 := Tryz.isAgg123
  z46 := Tryz.sizeOf123
  v46 := Tryz.zeroValue123
  t51 := Tryz.underlying174
  a51 := Tryz.isAgg174
  z51 := Tryz.sizeOf174
  v51 := Tryz.zeroValue174
  t53 := Tryz.underlying24
  a53 := Tryz.isAgg24
  z53 := Tryz.sizeOf24
  v53 := Tryz.zeroValue24
  t131 := Tryz.underlying41
  a131 := Tryz.isAgg41
  z131 := Tryz.sizeOf41
  v131 := Tryz.zeroValue41
  t182 := Tryz.underlying166
  a182 := Tryz.isAgg166
  z182 := Tryz.sizeOf166
  v182 := Tryz.zeroValue166
  t183 := Tryz.underlying167
  a183 := Tryz.isAgg167
  z183 := Tryz.sizeOf167
  v183 := Tryz.zeroValue167
  t218 := Tryz.underlying199
  a218 := Tryz.isAgg199
  z218 := Tryz.sizeOf199
  v218 := Tryz.zeroValue199
  t222 := Tryz.underlying203
  a222 := Tryz.isAgg203
  z222 := Tryz.sizeOf203
  v222 := Tryz.zeroValue203
  t228 := Tryz.underlying216
  a228 := Tryz.isAgg216
  z228 := Tryz.sizeOf216
  v228 := Tryz.zeroValue216
  t229 := Tryz.underlying217
  a229 := Tryz.isAgg217
  z229 := Tryz.sizeOf217
  v229 := Tryz.zeroValue217 }
def laysCompact_ren : Go.Shelf.Ren := ⟨fun | 20 => 40 | n => n, fun | 22 => 48 | 3 => 3 | 4 => 4 | 0 => 0 | n => n, fun | n => n⟩
theorem laysCompact : Go.Proofs.Lays2.n20 Tryz.prog laysCompact_ren := {
  mixed := by kernel_rfl
  f20 := Tryz.func40.trans (congrArg some (by kernel_rfl))
  t0 := Tryz.underlying0
  a0 := Tryz.isAgg0
  z0 := Tryz.sizeOf0
  v0 := Tryz.zeroValue0
  t3 := Tryz.underlying3
  a3 := Tryz.isAgg3
  z3 := Tryz.sizeOf3
  v3 := Tryz.zeroValue3
  t4 := Tryz.underlying4
  a4 := Tryz.isAgg4
  z4 := Tryz.sizeOf4
  v4 := Tryz.zeroValue4
  t22 := Tryz.underlying48
  a22 := Tryz.isAgg48
  z22 := Tryz.sizeOf48
  v22 := Tryz.zeroValue48
  i3 := by kernel_rfl }

/-! ### what Compact leaves -/
theorem compact_inv {d : Array Int} (hd : ∀ i j, i ≤ j → j < d.size → d[i]! ≤ d[j]!) : ∀ m, m ≤ d.size → (Lib.compactUpTo d m).Pairwise (· < ·) ∧ (∀ x ∈ Lib.compactUpTo d m, ∃ j, j < m ∧ d[j]! = x) ∧ ∀ j, j < m → d[j]! ∈ Lib.compactUpTo d m
  | 0, _ => ⟨by simp [Lib.compactUpTo], by simp [Lib.compactUpTo], fun j h => by omega⟩
  | m + 1, hm => by
    obtain ⟨h1, h2, h3⟩ := compact_inv hd m (by omega)
    rw [Lib.compactUpTo_succ]
    by_cases hk : m = 0 ∨ d[m]! ≠ d[m - 1]!
    · have hkeep : Lib.keeps d m = true := decide_eq_true hk
      rw [hkeep, if_pos rfl]
      refine ⟨?_, ?_, ?_⟩
      · rw [List.pairwise_append]
        refine ⟨h1, by simp, fun x hx y hy => ?_⟩
        obtain ⟨j, hj, rfl⟩ := h2 x hx
        rw [List.mem_singleton.1 hy]
        rcases hk with rfl | hk
        · omega
        · have a1 := hd j (m - 1) (by omega) (by omega)
          have a2 := hd (m - 1) m (by omega) (by omega)
          omega
      · intro x hx
        rcases List.mem_append.1 hx with hx | hx
        · obtain ⟨j, hj, e⟩ := h2 x hx
          exact ⟨j, by omega, e⟩
        · exact ⟨m, by omega, (List.mem_singleton.1 hx).symm⟩
      · intro j hj
        rcases Nat.lt_or_ge j m with h | h
        · exact List.mem_append_left _ (h3 j h)
        · obtain rfl : j = m := by omega
          exact List.mem_append_right _ (by simp)
    · have hkeep : Lib.keeps d m = false := decide_eq_false hk
      rw [hkeep, if_neg (by decide), List.append_nil]
      have hm0 : m ≠ 0 := fun e => hk (.inl e)
      have he : d[m]! = d[m - 1]! := by
        by_cases e : d[m]! = d[m - 1]!
        · exact e
        · exact absurd (.inr e) hk
      refine ⟨h1, fun x hx => ?_, fun j hj => ?_⟩
      · obtain ⟨j, hj, e⟩ := h2 x hx
        exact ⟨j, by omega, e⟩
      · rcases Nat.lt_or_ge j m with h | h
        · exact h3 j h
        · obtain rfl : j = m := by omega
          rw [he]
          exact h3 _ (by omega)
theorem compact_rise {zs : List Int} (hs : zs.Pairwise (· ≤ ·)) : (Lib.compact zs).Pairwise (· < ·) ∧ ∀ x, x ∈ Lib.compact zs ↔ x ∈ zs := by
  have hget : ∀ i, i < zs.length → zs.toArray[i]! = zs.getD i 0 := fun i hi => by
    simp [List.getD, hi]
  obtain ⟨h1, h2, h3⟩ := compact_inv (d := zs.toArray) (fun i j hij hj => by
    have hj' : j < zs.length := by simpa using hj
    rw [hget i (by omega), hget j hj']
    rcases Nat.lt_or_ge i j with h | h
    · have := List.pairwise_iff_getElem.1 hs i j (by omega) hj' h
      simpa [List.getD, hj', show i < zs.length by omega] using this
    · obtain rfl : i = j := by omega
      exact Int.le_refl _) zs.length (by simp)
  refine ⟨h1, fun x => ⟨fun hx => ?_, fun hx => ?_⟩⟩
  · obtain ⟨j, hj, e⟩ := h2 x hx
    rw [hget j hj, List.getD_eq_getElem?_getD, List.getElem?_eq_getElem hj, Option.getD_some] at e
    rw [← e]
    exact List.getElem_mem hj
  · obtain ⟨j, hj, e⟩ := List.getElem_of_mem hx
    have := h3 j hj
    rw [hget j hj, List.getD_eq_getElem?_getD, List.getElem?_eq_getElem hj, Option.getD_some, e] at this
    exact this
def riseL (l : List Int) : List Int := Lib.compact (l.mergeSort fun x y => decide (x ≤ y))
theorem riseL_rise (l : List Int) : (riseL l).Pairwise (· < ·) ∧ ∀ x, x ∈ riseL l ↔ x ∈ l := by
  have hp : (l.mergeSort fun x y => decide (x ≤ y)).Pairwise (· ≤ ·) := by
    have := List.pairwise_mergeSort (le := fun x y : Int => decide (x ≤ y)) (fun a b c h1 h2 => by simp at *; omega) (fun a b => by simp; omega) l
    exact this.imp fun h => by simpa using h
  obtain ⟨h1, h2⟩ := compact_rise hp
  exact ⟨h1, fun x => (h2 x).trans List.mem_mergeSort⟩
/-! ### the contracts -/
theorem sort_ok {w : World} {v : Value} {l : List Int} (hO : Ir.Own w v l) (hlen : l.length ≤ 1000000) :
    Calls Tryz.prog 39 #[v] w fun e y => e = .returned (.tuple #[]) ∧ Ir.Own y v (l.mergeSort fun x y => decide (x ≤ y)) ∧ Kept v.ownBlock.toList w y := by
  have hO' := hO
  rcases hO.2 with ⟨rfl, h0⟩ | ⟨g, cap, cur, rfl, hbase, hb, h1, h2, h3, h4⟩
  · obtain rfl : l = [] := List.eq_nil_of_length_eq_zero h0
    refine (Any.slices_Sort_int_none laysSort none 0 w).mono ?_
    rintro e y ⟨he, rfl⟩
    exact ⟨he, by simpa using hO', Kept.refl _ _⟩
  · have hH := holds_of_blockI (ss := l) hb (by simpa [Ir.ints] using h4)
    refine (Any.slices_Sort_int laysSort g 0 cap l w hH (Array.getElem?_eq_some_iff.1 hb).1 (by omega)).mono ?_
    rintro e y ⟨he, n, os, rfl⟩
    have hl : (l.mergeSort fun x y => decide (x ≤ y)).length = l.length := List.length_mergeSort l
    have hr := ownsRow_sortedI (n := n) (os := os) (ts := l.mergeSort fun x y => decide (x ≤ y)) hl hbase hb h1 h2 h3
    refine ⟨he, ?_, (Kept.refl _ w).grown (grownBy_sortedI _) fun b hb => .inl (by rw [← Option.some.inj hb]; simp [Value.ownBlock])⟩
    unfold Ir.Own Ir.ints
    rw [hl]
    exact hr
theorem compact_ok {w : World} {v : Value} {l : List Int} (hO : Ir.Own w v l) :
    Calls Tryz.prog 40 #[v] w fun e y => ∃ v', e = .returned v' ∧ Ir.Own y v' (Lib.compact l) ∧ v'.ownBlock = v.ownBlock ∧ Kept v.ownBlock.toList w y := by
  have hO' := hO
  rcases hO.2 with ⟨rfl, h0⟩ | ⟨g, cap, cur, rfl, hbase, hb, h1, h2, h3, h4⟩
  · obtain rfl : l = [] := List.eq_nil_of_length_eq_zero h0
    refine (Any.slices_Compact_int_empty laysCompact none 0 w).mono ?_
    rintro e y ⟨he, rfl⟩
    exact ⟨_, he, by simpa [Lib.compact, Lib.compactUpTo] using hO', rfl, Kept.refl _ _⟩
  · have hH := holds_of_blockI (ss := l) hb (by simpa [Ir.ints] using h4)
    refine (Any.slices_Compact_int laysCompact g 0 cap l w hH (by unfold maxLen at h2; omega) h1).mono ?_
    rintro e y ⟨he, q, rfl⟩
    have hle := Lib.compact_length_le l
    have hr := Lib.ownsRow_putRow (enc := Value.int .i64) (q := q) (k := (Lib.compact l).length) (ys := Lib.compact l ++ List.replicate (l.length - (Lib.compact l).length) 0) hO' (by simp; omega) (by omega)
    rw [List.take_left] at hr
    refine ⟨_, he, hr, rfl, ⟨rfl, rfl, rfl, by simp [Sort.putRow, Sort.mapBlock, Sort.ahead], fun k hk hn => ?_⟩⟩
    have hne : g ≠ k := fun e => hn (by simp [Value.ownBlock, e])
    simp [Sort.putRow, Sort.mapBlock, Sort.ahead, Array.getElem?_modify, hne]
end Go.Proofs.YtdfnphgjjodfoaaGreatDoor.Fd

/-
  Stage 11, find: the contract of All: the objects that have one of many addresses, each once, rising.
-/
namespace Go.Proofs.YtdfnphgjjodfoaaGreatDoor.Fd
open Go.RowKit Go.Proofs.YtdfnphgjjodfoaaGreatDoor.Ar Go.Proofs.YtdfnphgjjodfoaaGreatDoor.Sp Go.Shelf
open Go.Proofs.YtdfnphgjjodfoaaGreatDoor.Hd (Hd fitL wordI)
open Go.Proofs.YtdfnphgjjodfoaaGreatDoor.Tb (Ty)
open Go.Proofs.YtdfnphgjjodfoaaGreatDoor.Sh (wordR wordB)
set_option linter.unusedVariables false

theorem mem_found (cs : List Cel) (us : List Int) (g : Int) : g ∈ (obF (fou cs us)).map (fun x : Cel × Int => x.1.a) ↔ ∃ u ∈ us, ofA cs u = some g := by
  unfold obF fou
  rw [List.mem_map]
  constructor
  · rintro ⟨x, hx, rfl⟩
    obtain ⟨h1, h2⟩ := List.mem_filter.1 hx
    obtain ⟨u, hu, h3⟩ := List.mem_flatMap.1 h1
    refine ⟨u, hu, ?_⟩
    unfold fou1 at h3
    unfold ofA
    cases hc : celA cs u with
    | none => rw [hc] at h3; cases h3
    | some c =>
      rw [hc] at h3
      obtain rfl := List.mem_singleton.1 h3
      exact if_pos (of_decide_eq_true h2)
  · rintro ⟨u, hu, h⟩
    unfold ofA at h
    cases hc : celA cs u with
    | none => rw [hc] at h; cases h
    | some c =>
      rw [hc] at h
      by_cases ht : c.h.tg = 1
      · have h : (if c.h.tg = 1 then some c.a else none) = some g := h
        rw [if_pos ht] at h
        refine ⟨(c, wordR u - 2 * c.a), List.mem_filter.2 ⟨List.mem_flatMap.2 ⟨u, hu, ?_⟩, decide_eq_true ht⟩, Option.some.inj h⟩
        unfold fou1
        rw [hc]
        exact List.mem_singleton.2 rfl
      · have h : (if c.h.tg = 1 then some c.a else none) = some g := h
        rw [if_neg ht] at h
        cases h
theorem found_all {ws : List Int} {l : List Ty} {cs : List Cel} {f e : Int} (h : Tiled ws l f cs e) (us : List Int) : riseL ((obF (fou cs us)).map (fun x : Cel × Int => x.1.a)) = allA cs us := by
  obtain ⟨h1, h2⟩ := riseL_rise ((obF (fou cs us)).map (fun x : Cel × Int => x.1.a))
  exact allA_of h h1 fun g => (h2 g).trans (mem_found cs us g)
section
variable {X : World}
set_option maxRecDepth 100000 in
set_option maxHeartbeats 4000000 in
theorem cl_all {b : Nat} (c : Cel) (k : Int) {v : Value} {L : List Int} (hb : Has X b 48 [v]) (hO : Ir.Own X v L) (hlen : L.length ≤ 1000000) :
    Calls Tryz.prog 38 #[c.val, .int .i64 k, .pointer (some ⟨b, 0, none⟩)] X fun e z => e = .returned (.tuple #[]) ∧ ∃ v', Has z b 48 [v'] ∧ Ir.Own z v' (L ++ [c.a]) ∧ (v'.ownBlock = v.ownBlock ∨ ∃ g, v'.ownBlock = some g ∧ X.heap.size ≤ g) ∧ Kept (b :: v.ownBlock.toList) X z := by
  have hc := Has.new X 37 [.int .i64 c.a, .int .u8 c.h.tg, .int .i64 c.h.ty, .int .i64 c.h.ln, .int .i64 c.h.sz]
  have ka := (Kept.refl [] X).alloc (.cells #[.int .i64 c.a, .int .u8 c.h.tg, .int .i64 c.h.ty, .int .i64 c.h.ln, .int .i64 c.h.sz] 37)
  have g0 := (hb.keep0 ka).cell 0
  simp at g0
  obtain ⟨d0, d1, d2, d3, d4⟩ := cells5 hc
  have kb := ka.alloc (.cells #[.int .i64 c.a] 3)
  have HOa := Lib.hid (hO.keep0 kb)
  have HSe : Hid (Ir.Seen ((X.alloc (.cells #[.int .i64 c.a, .int .u8 c.h.tg, .int .i64 c.h.ty, .int .i64 c.h.ln, .int .i64 c.h.sz] 37)).alloc (.cells #[.int .i64 c.a] 3)) (some ⟨X.heap.size + 1, 0, none⟩) [c.a]) := Lib.hid (Ir.Row.seen (l := [c.a]) (has_at 3 [.int .i64 c.a] (by rw [World.size_alloc])))
  have hob : b ∉ v.ownBlock.toList := fun hm => by
    obtain ⟨cs', h'⟩ := Ir.own_cells hO b hm
    exact Has.block_type hb h' (by decide) rfl
  have HB := Lib.hid (hb.keep0 kb)
  have KB := Lib.hid kb
  have HOb := Lib.hid hob
  clear hc ka kb hob hb hO
  obtain ⟨ca, ⟨ct, cy, cl, cz⟩⟩ := c
  unfold Cel.val
  simp only at *
  go_enter Tryz.func38, Tryz.ntmps38
  go_wp2_with (at_builtin; (refine Ir.append_numbers rfl (.tmp 5) (.tmp 8) rfl v L rfl HOa.out (some ⟨X.heap.size + 1, 0, none⟩) 1 1 [ca] rfl rfl (fun h => by cases h) HSe.out (by omega) ?_))
  intro v' w4 o4 g4 b4
  have hk4 : Kept v.ownBlock.toList X w4 := (KB.out.none _).grown g4 fun g e => .inl (by rw [e]; simp)
  have hb4 : Has w4 b 48 [v] := HB.out.kept ((Kept.refl _ _).grown g4 fun g e => .inl (by rw [e]; simp)) HOb.out
  have c4 := hb4.cell 0
  have f4 := hb4.free 0
  simp at c4
  have hv : v'.ownBlock = v.ownBlock ∨ ∃ g, v'.ownBlock = some g ∧ X.heap.size ≤ g := b4.imp_right fun h => ⟨_, h, by omega⟩
  have hob4 : v'.ownBlock ≠ some b := fun e => by
    obtain ⟨cs', h'⟩ := Ir.own_cells o4 b (by rw [e]; simp)
    exact Has.block_type hb4 h' (by decide) rfl
  obtain ⟨g9, cap9, rfl⟩ : ∃ g cap, v' = .slice (some ⟨g, 0, none⟩) (L ++ [ca]).length cap := by
    rcases o4.form with ⟨_, h⟩ | ⟨g, cap, h1, _⟩
    · simp at h
    · exact ⟨g, cap, h1⟩
  obtain ⟨len, hlen9⟩ : ∃ len, len = (L ++ [ca]).length := ⟨_, rfl⟩
  rw [← hlen9] at o4 hv hob4 ⊢
  have O4 := Lib.hid o4
  have K4 := Lib.hid hk4
  have B4 := Lib.hid hb4
  have HV := Lib.hid hv
  have HN := Lib.hid hob4
  clear o4 g4 b4 hk4 hb4 hv hob4 hlen9 HOa HSe HB KB HOb d0 d1 d2 d3 d4 g0
  go_wp2_with fail
  go_end0
  have ks : Kept [b] w4 (w4.setCell ⟨b, 0, none⟩ (.slice (some ⟨g9, 0, none⟩) len cap9)) := (Kept.refl _ _).setCell _ _ (.inl (by simp))
  exact ⟨rfl, _, B4.out.put 0 _, O4.out.kept ks (fun g hg => by rw [List.mem_singleton.1 hg]; exact HN.out), HV.out, (K4.out.mono fun i hi => List.mem_cons_of_mem _ hi).trans (ks.mono (by simp))⟩
end
section
variable {w : World} {p : Option Addr} {cs : List Cel} {ws : List Int} {l : List Ty} {ec : Int}
set_option maxRecDepth 100000 in
set_option maxHeartbeats 4000000 in
theorem fall_ok (hT : Tiled ws l 0 cs ec) (he : ec ≤ 32768)
    (hC : ∀ x, Kept [] w x → Calls Tryz.prog 19 #[.pointer p] x fun e z => ∃ v, e = .returned v ∧ Sp.Own z v cs ∧ Sp.FreshV x v ∧ Kept [] x z)
    {A : Option Addr} {cap : Nat} (us : List Int) (hA : Rw w A us) (hu : ∀ u ∈ us, 0 ≤ u ∧ u < 18446744073709551616) (hlen : us.length ≤ 1000000) :
    Calls Tryz.prog 17 #[.pointer p, .slice A us.length cap] w fun e y => ∃ v, e = .returned v ∧ Ir.Own y v (allA cs us) ∧ Sp.FreshV w v ∧ Kept [] w y := by
  have k1 := (Kept.refl [] w).alloc (.cells #[.slice none 0 0] 48)
  have r1 := Has.new w 48 [.slice none 0 0]
  have HF : Hid (Calls Tryz.prog 33 #[.pointer p, .func (.func 38) #[] #[.pointer (some ⟨w.heap.size, 0, none⟩)], .slice A us.length cap] (w.alloc (.cells #[.slice none 0 0] 48)) fun e y => e = .returned (.tuple #[]) ∧ ((∃ v, Has y w.heap.size 48 [v] ∧ Ir.Own y v ((obF (fou cs us)).map (fun x : Cel × Int => x.1.a)) ∧ Sp.FreshV w v) ∧ Kept [] w y) ∧ Kpi [w.heap.size] (w.alloc (.cells #[.slice none 0 0] 48)) y) := Lib.hid (by
    refine objects_ok (cap := cap) hT he (fun x k => hC x (k1.trans k)) 38 #[.pointer (some ⟨w.heap.size, 0, none⟩)] (enters_of Tryz.func38 (by kernel_rfl) rfl) [w.heap.size] us (hA.keep0 k1) hu hlen
      (fun b hb => by rw [List.mem_singleton.1 hb]; exact ⟨_, _, r1, by decide⟩)
      (fun pre X => (∃ v, Has X w.heap.size 48 [v] ∧ Ir.Own X v (pre.map (fun x : Cel × Int => x.1.a)) ∧ Sp.FreshV w v) ∧ Kept [] w X)
      (fun pre X Y ⟨⟨v, a, b, c⟩, d⟩ k => ⟨⟨v, a.keep0 k, b.keep0 k, c⟩, d.trans k⟩) ⟨⟨_, r1, Ir.Own.nil _, .inl rfl⟩, k1⟩
      (fun pre c k X hc ht k0 kk hp ⟨⟨v, a, b, f⟩, g⟩ => ?_)
    refine (cl_all c k a b (by rw [List.length_map]; omega)).mono fun e z ⟨h1, v', h2, h3, h4, h5⟩ => ⟨h1, ⟨⟨v', h2, by rw [List.map_append]; exact h3, ?_⟩, g.forget h5 (fun i hi => ?_)⟩, Kpi.of h5 (fun x hx => ?_)⟩
    · rcases h4 with h4 | ⟨g', h4, h6⟩
      · unfold Sp.FreshV at f ⊢
        rw [h4]
        exact f
      · exact .inr ⟨g', h4, Nat.le_trans g.more h6⟩
    · rcases List.mem_cons.1 hi with rfl | hi
      · exact Nat.le_refl _
      · rcases f with f | ⟨g', f, f2⟩
        · rw [f] at hi; simp at hi
        · rw [f] at hi
          obtain rfl : i = g' := by simpa using hi
          exact f2
    · rcases List.mem_cons.1 hx with rfl | hx
      · exact .inl (by simp)
      · exact .inr (Ir.own_cells b x hx))
  have HAl := Lib.hid (found_all hT us)
  have HLn : Hid (((obF (fou cs us)).map (fun x : Cel × Int => x.1.a)).length ≤ 1000000) := Lib.hid (by
    rw [List.length_map]
    have h1 := obF_len (fou cs us)
    have h2 := fou_len cs us
    omega)
  clear k1 r1 hT hC hA hu
  generalize (obF (fou cs us)).map (fun x : Cel × Int => x.1.a) = L at *
  go_enter Tryz.func17, Tryz.ntmps17
  go_wp2_with fail
  refine HF.out.mono ?_
  rintro e y ⟨rfl, ⟨⟨v, hb, hO, hv⟩, k⟩, _⟩
  have c0 := hb.cell 0
  simp at c0
  have hnb : w.heap.size ∉ v.ownBlock.toList := fun hm => by
    obtain ⟨cs', h'⟩ := Ir.own_cells hO _ hm
    exact Has.block_type hb h' (by decide) rfl
  have hfr : ∀ i ∈ v.ownBlock.toList, w.heap.size ≤ i := fun i hi => by
    rcases hv with f | ⟨g', f, f2⟩
    · rw [f] at hi; simp at hi
    · rw [f] at hi
      obtain rfl : i = g' := by simpa using hi
      exact f2
  have HS := Lib.hid (sort_ok hO HLn.out)
  have HB := Lib.hid hb
  have HNb := Lib.hid hnb
  have HFr := Lib.hid hfr
  have HV := Lib.hid hv
  have HK := Lib.hid k
  clear hb hO hv k hnb hfr HF
  go_wp2_with fail
  refine HS.out.mono ?_
  rintro e y2 ⟨rfl, hO2, k2⟩
  have hb2 := HB.out.kept k2 HNb.out
  have c2 := hb2.cell 0
  simp at c2
  have HC := Lib.hid (compact_ok hO2)
  have HK2 := Lib.hid (HK.out.forget k2 HFr.out)
  clear hO2 k2 hb2 HS HB HK c0
  go_wp2_with fail
  refine HC.out.mono ?_
  rintro e y3 ⟨v', rfl, hO3, hv3, k3⟩
  have hR : Hid (Ir.Own y3 v' (allA cs us) ∧ Sp.FreshV w v' ∧ Kept [] w y3) := Lib.hid ⟨by rw [← HAl.out]; exact hO3, by
    have := HV.out
    unfold Sp.FreshV at this ⊢
    rw [hv3]
    exact this, HK2.out.forget k3 HFr.out⟩
  clear hO3 hv3 k3 HC c2
  go_wp2_with fail
  go_ret
  exact ⟨v', rfl, hR.out⟩
end
end Go.Proofs.YtdfnphgjjodfoaaGreatDoor.Fd
