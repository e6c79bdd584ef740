/-
  Several texts in one: FdMath, FdFirst.
-/
import Derived.Test.YtdfnphgjjodfoaaGreatDoorG22
import Derived.Test.YtdfnphgjjodfoaaGreatDoorG17
import Derived.Test.YtdfnphgjjodfoaaGreatDoorG23
/-
  Stage 11, find: which cell of a tiled list has a word, which object; cells rise, so that halving finds them. No function of find is named here.
-/
namespace Go.Proofs.YtdfnphgjjodfoaaGreatDoor.Fd
open Go.RowKit Go.Proofs.YtdfnphgjjodfoaaGreatDoor.Ar Go.Proofs.YtdfnphgjjodfoaaGreatDoor.Sp
open Go.Proofs.YtdfnphgjjodfoaaGreatDoor.Hd (Hd fitL wordI)
open Go.Proofs.YtdfnphgjjodfoaaGreatDoor.Tb (Ty)
open Go.Proofs.YtdfnphgjjodfoaaGreatDoor.Sh (wordR wordB)
set_option linter.unusedVariables false

/-- A cell has a word: the word is in one of its granules. -/
def hasW (n : Int) (c : Cel) : Bool := decide (2 * c.a ≤ n ∧ n < 2 * (c.a + c.h.sz))
/-- The first cell that has word n. -/
def celW (cs : List Cel) (n : Int) : Option Cel := cs.find? (hasW n)
theorem celW_none {ws : List Int} {l : List Ty} {n : Int} {cs : List Cel} {f e : Int} (h : Tiled ws l f cs e) (ho : n < 2 * f ∨ 2 * e ≤ n) : celW cs n = none := by
  unfold celW
  rw [List.find?_eq_none]
  intro c hc hh
  obtain ⟨a1, a2, _⟩ := h.mem c hc
  have := of_decide_eq_true hh
  omega
theorem celW_at {ws : List Int} {l : List Ty} {n : Int} : ∀ {A B : List Cel} {x : Cel} {f e : Int}, Tiled ws l f (A ++ x :: B) e → 2 * x.a ≤ n → n < 2 * (x.a + x.h.sz) → celW (A ++ x :: B) n = some x
  | [], B, x, f, e, h, h1, h2 => by
    unfold celW
    rw [List.nil_append, List.find?_cons_of_pos]
    exact decide_eq_true ⟨h1, h2⟩
  | c :: A, B, x, f, e, h, h1, h2 => by
    have hm := (Tiled.mem h.2.2.2.2 x (by simp)).1
    have ha := h.1
    have := celW_at (A := A) h.2.2.2.2 h1 h2
    unfold celW at *
    rw [List.cons_append, List.find?_cons_of_neg]
    · exact this
    · intro hh
      have := (of_decide_eq_true hh).2
      omega
theorem celW_mem {cs : List Cel} {n : Int} {x : Cel} (h : celW cs n = some x) : x ∈ cs ∧ 2 * x.a ≤ n ∧ n < 2 * (x.a + x.h.sz) :=
  ⟨List.mem_of_find?_eq_some h, of_decide_eq_true (show hasW n x = true from List.find?_some h)⟩
/-- Just one cell has a word. -/
theorem celW_one {ws : List Int} {l : List Ty} {n : Int} {cs : List Cel} {f e : Int} (h : Tiled ws l f cs e) {x : Cel} (hx : x ∈ cs) (h1 : 2 * x.a ≤ n) (h2 : n < 2 * (x.a + x.h.sz)) : celW cs n = some x := by
  obtain ⟨A, B, rfl⟩ := List.append_of_mem hx
  exact celW_at h h1 h2

/-- Cells rise. -/
theorem rise {ws : List Int} {l : List Ty} {cs : List Cel} {f e : Int} (h : Tiled ws l f cs e) {i j : Nat} (hij : i < j) (hj : j < cs.length) : (cs.getD i Cel.zero).a + (cs.getD i Cel.zero).h.sz ≤ (cs.getD j Cel.zero).a := by
  have hs : cs = cs.take j ++ cs.drop j := (List.take_append_drop j cs).symm
  have hd : cs.drop j = cs.getD j Cel.zero :: cs.drop (j + 1) := by
    rw [List.getD_eq_getElem?_getD, List.getElem?_eq_getElem hj]
    exact List.drop_eq_getElem_cons hj
  rw [hs, hd] at h
  obtain ⟨m, t1, t2⟩ := Tiled.split h
  have h2 : (cs.getD j Cel.zero).a = m := t2.1
  have hi : cs.getD i Cel.zero ∈ cs.take j := by
    rw [List.getD_eq_getElem?_getD, List.getElem?_eq_getElem (by omega), Option.getD_some]
    exact List.mem_take_iff_getElem.2 ⟨i, by omega, rfl⟩
  have := (t1.mem _ hi).2.1
  omega
/-- Which of the cells it is: the word is ahead of the next one's first. -/
theorem celW_idx {ws : List Int} {l : List Ty} {cs : List Cel} {f e : Int} (h : Tiled ws l f cs e) {j : Nat} (hj : j < cs.length) {n : Int} (h1 : 2 * (cs.getD j Cel.zero).a ≤ n) (h2 : n < 2 * ((cs.getD j Cel.zero).a + (cs.getD j Cel.zero).h.sz)) : celW cs n = some (cs.getD j Cel.zero) := by
  refine celW_one h ?_ h1 h2
  rw [List.getD_eq_getElem?_getD, List.getElem?_eq_getElem hj]
  exact List.getElem_mem hj

/-- The cell that has an address. -/
def celA (cs : List Cel) (u : Int) : Option Cel := if wordB u = true then celW cs (wordR u) else none
/-- Where the object begins that has an address. -/
def ofA (cs : List Cel) (u : Int) : Option Int := match celA cs u with
  | some c => if c.h.tg = 1 then some c.a else none
  | none => none
/-- The slot that has an address; of the cell's word n, slots sl. -/
def slotA (sl : Cel → Int) (cs : List Cel) (u : Int) : Option (Int × Int) := match celA cs u with
  | some c => if c.h.tg = 1 ∧ 0 ≤ wordR u - 2 * c.a - 1 ∧ wordR u - 2 * c.a - 1 < sl c then some (c.a, wordR u - 2 * c.a - 1) else none
  | none => none
/-- The objects that have one of these addresses. -/
def allA (cs : List Cel) (us : List Int) : List Int := (cs.filter fun c => us.any fun u => ofA cs u == some c.a).map (·.a)
theorem ofA_mem {cs : List Cel} {u g : Int} (h : ofA cs u = some g) : ∃ c ∈ cs, c.h.tg = 1 ∧ c.a = g ∧ 2 * c.a ≤ wordR u ∧ wordR u < 2 * (c.a + c.h.sz) ∧ wordB u = true := by
  unfold ofA celA at h
  by_cases hb : wordB u = true
  · rw [if_pos hb] at h
    cases hc : celW cs (wordR u) with
    | none => rw [hc] at h; cases h
    | some c =>
      rw [hc] at h
      obtain ⟨m1, m2, m3⟩ := celW_mem hc
      by_cases ht : c.h.tg = 1
      · have h : (if c.h.tg = 1 then some c.a else none) = some g := h
        rw [if_pos ht] at h
        exact ⟨c, m1, ht, Option.some.inj h, m2, m3, hb⟩
      · have h : (if c.h.tg = 1 then some c.a else none) = some g := h
        rw [if_neg ht] at h
        cases h
  · rw [if_neg hb] at h
    cases h
end Go.Proofs.YtdfnphgjjodfoaaGreatDoor.Fd

/-
  Stage 11, find: halving a row of cells: the first one that ends behind a word has it.
-/
namespace Go.Proofs.YtdfnphgjjodfoaaGreatDoor.Fd
open Go.RowKit Go.Proofs.YtdfnphgjjodfoaaGreatDoor.Ar Go.Proofs.YtdfnphgjjodfoaaGreatDoor.Sp
open Go.Proofs.YtdfnphgjjodfoaaGreatDoor.Hd (Hd fitL wordI)
open Go.Proofs.YtdfnphgjjodfoaaGreatDoor.Tb (Ty)
open Go.Proofs.YtdfnphgjjodfoaaGreatDoor.Sh (wordR wordB)
set_option linter.unusedVariables false

/-- Where a cell ends. -/
def endC (c : Cel) : Int := c.a + c.h.sz
theorem joint {ws : List Int} {l : List Ty} : ∀ {cs : List Cel} {f e : Int}, Tiled ws l f cs e → ∀ j, j + 1 < cs.length → (cs.getD (j + 1) Cel.zero).a = endC (cs.getD j Cel.zero)
  | [], _, _, _, j, hj => by simp at hj
  | [c], _, _, _, j, hj => by simp at hj
  | c :: d :: cs, f, e, h, 0, _ => by
    have h1 := h.1
    have h2 : d.a = f + c.h.sz := h.2.2.2.2.1
    show d.a = c.a + c.h.sz
    omega
  | c :: d :: cs, f, e, h, j + 1, hj => joint (cs := d :: cs) h.2.2.2.2 j (by simpa using hj)
theorem getD_mem {cs : List Cel} {j : Nat} (hj : j < cs.length) : cs.getD j Cel.zero ∈ cs := by
  rw [List.getD_eq_getElem?_getD, List.getElem?_eq_getElem hj]
  exact List.getElem_mem hj
theorem bounds_of {ws : List Int} {l : List Ty} {cs : List Cel} {e : Int} (h : Tiled ws l 0 cs e) (he : e ≤ 32768) : ∀ c ∈ cs, 0 ≤ c.a ∧ c.a ≤ 1000000 ∧ 1 ≤ c.h.sz ∧ c.h.sz ≤ 1000000 ∧ endC c ≤ 32768 := fun c hc => by
  obtain ⟨h1, h2, h3, _⟩ := h.mem c hc
  have := can_sz h3
  unfold endC
  omega
theorem ends_rise {ws : List Int} {l : List Ty} {cs : List Cel} {e : Int} (h : Tiled ws l 0 cs e) (he : e ≤ 32768) {j k : Nat} (hjk : j < k) (hk : k < cs.length) : endC (cs.getD j Cel.zero) ≤ endC (cs.getD k Cel.zero) := by
  have h1 := rise h hjk hk
  have h2 := bounds_of h he _ (getD_mem hk)
  unfold endC at *
  omega
/-- The first cell that ends behind a word has it; if there is none, none has. -/
theorem celW_first {ws : List Int} {l : List Ty} {cs : List Cel} {e i : Int} (h : Tiled ws l 0 cs e) (he : e ≤ 32768) (hi : 0 ≤ i) {j : Nat} (hj : j ≤ cs.length) (h1 : ∀ k, k < j → 2 * endC (cs.getD k Cel.zero) ≤ i) (h2 : j < cs.length → i < 2 * endC (cs.getD j Cel.zero)) :
    celW cs i = if j < cs.length then some (cs.getD j Cel.zero) else none := by
  by_cases hlt : j < cs.length
  · rw [if_pos hlt]
    refine celW_idx h hlt ?_ (h2 hlt)
    cases j with
    | zero =>
      cases cs with
      | nil => simp at hlt
      | cons c cs =>
        have : c.a = 0 := h.1
        show 2 * c.a ≤ i
        omega
    | succ j =>
      have h3 := joint h j hlt
      have h4 := h1 j (by omega)
      omega
  · rw [if_neg hlt]
    unfold celW
    rw [List.find?_eq_none]
    intro c hc hh
    obtain ⟨k, hk, rfl⟩ := List.getElem_of_mem hc
    have h4 := h1 k (by omega)
    rw [List.getD_eq_getElem?_getD, List.getElem?_eq_getElem hk, Option.getD_some] at h4
    have := (of_decide_eq_true hh).2
    unfold endC at h4
    omega
section
variable {w : World}
set_option maxRecDepth 100000 in
theorem ends_ok {b : Nat} {i : Int} (c : Cel) (hB : Has w b 3 [.int .i64 i]) (h0 : 0 ≤ c.a) (h1 : c.a ≤ 1000000) (h2 : 0 ≤ c.h.sz) (h3 : c.h.sz ≤ 1000000) :
    Calls Tryz.prog 71 #[c.val, .pointer (some ⟨b, 0, none⟩)] w fun e w' => e = .returned (.bool (decide (i < 2 * endC c))) ∧ Kept [] w w' := by
  unfold Cel.val endC
  have hb := Has.new w 37 [.int .i64 c.a, .int .u8 c.h.tg, .int .i64 c.h.ty, .int .i64 c.h.ln, .int .i64 c.h.sz]
  obtain ⟨c0, c1, c2, c3, c4⟩ := cells5 hb
  have hi := (hB.alloc (.cells #[.int .i64 c.a, .int .u8 c.h.tg, .int .i64 c.h.ty, .int .i64 c.h.ln, .int .i64 c.h.sz] 37)).cell 0
  simp at hi
  have hk : Kept [] w (w.alloc (.cells #[.int .i64 c.a, .int .u8 c.h.tg, .int .i64 c.h.ty, .int .i64 c.h.ln, .int .i64 c.h.sz] 37)) := (Kept.refl [] w).alloc _
  have HK := Lib.hid hk
  clear hb hk hB
  generalize c.a = a at *
  generalize c.h.sz = z at *
  go_enter Tryz.func71, Tryz.ntmps71
  go_wp2_with fail
  go_ret
  exact ⟨ret_bool (by congr 1; apply propext; omega), HK.out⟩
set_option maxRecDepth 100000 in
set_option maxHeartbeats 4000000 in
theorem first_ok {A : Option Addr} {cap b : Nat} {i : Int} (cs : List Cel) (hS : Sp.Seen w A cs) (hB : Has w b 3 [.int .i64 i]) (hlen : cs.length ≤ 32768)
    (hbd : ∀ c ∈ cs, 0 ≤ c.a ∧ c.a ≤ 1000000 ∧ 1 ≤ c.h.sz ∧ c.h.sz ≤ 1000000 ∧ endC c ≤ 32768)
    (hri : ∀ j k, j < k → k < cs.length → endC (cs.getD j Cel.zero) ≤ endC (cs.getD k Cel.zero)) :
    Calls Tryz.prog 70 #[.slice A cs.length cap, .func (.func 71) #[] #[.pointer (some ⟨b, 0, none⟩)]] w fun e y =>
      (∃ j : Nat, j ≤ cs.length ∧ (∀ k, k < j → 2 * endC (cs.getD k Cel.zero) ≤ i) ∧ (j < cs.length → i < 2 * endC (cs.getD j Cel.zero)) ∧ e = .returned (.tuple #[(cs.getD j Cel.zero).val, .bool (decide (j < cs.length))])) ∧ Kept [] w y := by
  have k0 : Kept [] w (w.alloc (.cells #[.int .i64 0, .int .u8 0, .int .i64 0, .int .i64 0, .int .i64 0] 37)) := (Kept.refl [] w).alloc _
  have h0 := Has.new w 37 [.int .i64 0, .int .u8 0, .int .i64 0, .int .i64 0, .int .i64 0]
  have HS := Lib.hid hS
  have HB := Lib.hid hB
  have HBd := Lib.hid hbd
  have HRi := Lib.hid hri
  have H0 := Lib.hid h0
  have K0 := Lib.hid k0
  clear hS hB hbd hri h0 k0
  go_enter Tryz.func70, Tryz.ntmps70
  go_wp2_with fail
  generalize w.alloc (.cells #[.int .i64 0, .int .u8 0, .int .i64 0, .int .i64 0, .int .i64 0] 37) = w1 at *
  obtain ⟨rb, hrb⟩ : ∃ rb, w.heap.size = rb := ⟨_, rfl⟩
  have HRb := Lib.hid hrb
  rw [hrb] at H0 ⊢
  clear hrb
  go_loopw [6, 7] (fun u v wr => ∃ f e : Nat, u = .int .i64 (f : Int) ∧ v = .int .i64 (e : Int) ∧ f ≤ e ∧ e ≤ cs.length ∧
    Hid ((∀ k, k < f → 2 * endC (cs.getD k Cel.zero) ≤ i) ∧ (∀ k, e ≤ k → k < cs.length → i < 2 * endC (cs.getD k Cel.zero)) ∧ Has wr rb 37 [.int .i64 0, .int .u8 0, .int .i64 0, .int .i64 0, .int .i64 0] ∧ Kept [] w wr)) (fun u v _ => (intOf v).toNat - (intOf u).toNat)
  case atStart => exact ⟨0, cs.length, rfl, rfl, Nat.zero_le _, Nat.le_refl _, Lib.hid ⟨fun k hk => absurd hk (Nat.not_lt_zero _), fun k h1 h2 => absurd h2 (by omega), H0.out, K0.out⟩⟩
  case round =>
    clear H0 K0
    obtain ⟨f, e, rfl, rfl, hfe, hel, hr⟩ := hrel
    by_cases hlt : f < e
    · obtain ⟨m, hm⟩ : ∃ m : Nat, m = (f + e) / 2 := ⟨_, rfl⟩
      have hmt : ((f : Int) + (e : Int)).tdiv 2 = (m : Int) := by rw [Int.tdiv_eq_ediv_of_nonneg (by omega)]; omega
      have hm1 : f ≤ m := by omega
      have hm2 : m < e := by omega
      have hml : m < cs.length := by omega
      clear hm
      obtain ⟨g, o, rfl, hg, c0, c1, c2, c3, c4⟩ := (HS.out.keep0 hr.out.2.2.2).at m hml _ rfl
      obtain ⟨x0, x1, x2, x3, x4⟩ := HBd.out _ (getD_mem hml)
      have HC := Lib.hid (ends_ok (cs.getD m Cel.zero) (HB.out.keep0 hr.out.2.2.2) x0 x1 (by omega) x3)
      have Hup : Hid (¬ i < 2 * endC (cs.getD m Cel.zero) → ∀ k, k < m + 1 → 2 * endC (cs.getD k Cel.zero) ≤ i) := Lib.hid fun hn k hk => by
        rcases Nat.lt_or_ge k m with h | h
        · have := HRi.out k m h hml
          omega
        · obtain rfl : k = m := by omega
          omega
      have Hdn : Hid (i < 2 * endC (cs.getD m Cel.zero) → ∀ k, m ≤ k → k < cs.length → i < 2 * endC (cs.getD k Cel.zero)) := Lib.hid fun hn k hk hl => by
        rcases Nat.lt_or_ge m k with h | h
        · have := HRi.out m k h hl
          omega
        · obtain rfl : k = m := by omega
          exact hn
      clear x0 x1 x2 x3 x4
      generalize cs.getD m Cel.zero = x at *
      obtain ⟨xa, ⟨xt, xy, xl, xz⟩⟩ := x
      unfold Cel.val at HC
      simp only at c0 c1 c2 c3 c4 HC
      by_cases hc : i < 2 * endC ⟨xa, ⟨xt, xy, xl, xz⟩⟩
      · rw [decide_eq_true hc] at HC
        have HN := Lib.hid (Hdn.out hc)
        clear hc Hup Hdn
        go_wp2_with fail
        refine HC.out.mono ?_
        rintro e1 y ⟨rfl, k1⟩
        have HN2 : Hid ((∀ k, k < f → 2 * endC (cs.getD k Cel.zero) ≤ i) ∧ (∀ k, m ≤ k → k < cs.length → i < 2 * endC (cs.getD k Cel.zero)) ∧ Has y rb 37 [.int .i64 0, .int .u8 0, .int .i64 0, .int .i64 0, .int .i64 0] ∧ Kept [] w y) := Lib.hid ⟨hr.out.1, HN.out, hr.out.2.2.1.keep0 k1, hr.out.2.2.2.trans k1⟩
        clear hr HN HC k1 c0 c1 c2 c3 c4 hmt
        go_wp2_with fail
        go_roundw
        case rel => exact ⟨f, m, rfl, rfl, hm1, by omega, HN2⟩
        case measure => simp [intOf] <;> omega
      · rw [decide_eq_false hc] at HC
        have HN := Lib.hid (Hup.out hc)
        clear hc Hup Hdn
        go_wp2_with fail
        refine HC.out.mono ?_
        rintro e1 y ⟨rfl, k1⟩
        have HN2 : Hid ((∀ k, k < m + 1 → 2 * endC (cs.getD k Cel.zero) ≤ i) ∧ (∀ k, e ≤ k → k < cs.length → i < 2 * endC (cs.getD k Cel.zero)) ∧ Has y rb 37 [.int .i64 0, .int .u8 0, .int .i64 0, .int .i64 0, .int .i64 0] ∧ Kept [] w y) := Lib.hid ⟨HN.out, hr.out.2.1, hr.out.2.2.1.keep0 k1, hr.out.2.2.2.trans k1⟩
        clear hr HN HC k1 c0 c1 c2 c3 c4 hmt
        go_wp2_with fail
        go_roundw
        case rel => exact ⟨m + 1, e, by go_num, rfl, by omega, by omega, HN2⟩
        case measure => simp [intOf] <;> omega
    · obtain rfl : f = e := by omega
      by_cases hfl : f = cs.length
      · have hz := Has.new wr 37 [.int .i64 0, .int .u8 0, .int .i64 0, .int .i64 0, .int .i64 0]
        obtain ⟨c0, c1, c2, c3, c4⟩ := cells5 hz
        have hb := hr.out.2.2.1.alloc (.cells #[.int .i64 0, .int .u8 0, .int .i64 0, .int .i64 0, .int .i64 0] 37)
        have hk := hr.out.2.2.2.alloc (.cells #[.int .i64 0, .int .u8 0, .int .i64 0, .int .i64 0, .int .i64 0] 37)
        obtain ⟨f0, f1, f2, f3, f4⟩ := free5 hb
        obtain ⟨d0, d1, d2, d3, d4⟩ := cells5 hb
        have R3 := Lib.hid hb
        have K3 := Lib.hid hk
        clear hz hb hk
        go_wp2_with fail
        change bodyPost Tryz.prog Tryz.f70 _ .ret _ _
        refine ret_cel rfl rfl R3.out K3.out (Nat.le_of_eq HRb.out) rfl rfl fun X hX => ⟨⟨f, by omega, hr.out.1, fun h => absurd h (by omega), ?_⟩, hX⟩
        rw [decide_eq_false (by omega), show cs.getD f Cel.zero = Cel.zero by rw [hfl]; simp]
        rfl
      · have hlt2 : f < cs.length := by omega
        obtain ⟨g, o, rfl, hg, c0, c1, c2, c3, c4⟩ := (HS.out.keep0 hr.out.2.2.2).at f hlt2 _ rfl
        obtain ⟨f0, f1, f2, f3, f4⟩ := free5 hr.out.2.2.1
        obtain ⟨d0, d1, d2, d3, d4⟩ := cells5 hr.out.2.2.1
        have HX := Lib.hid (hr.out.2.1 f (Nat.le_refl _) hlt2)
        generalize hx : cs.getD f Cel.zero = x at *
        have Hxx := Lib.hid hx
        clear hx
        obtain ⟨xa, ⟨xt, xy, xl, xz⟩⟩ := x
        simp only at c0 c1 c2 c3 c4
        go_wp2_with fail
        change bodyPost Tryz.prog Tryz.f70 _ .ret _ _
        refine ret_cel rfl rfl hr.out.2.2.1 hr.out.2.2.2 (Nat.le_of_eq HRb.out) rfl rfl fun X hX => ⟨⟨f, by omega, hr.out.1, fun _ => by rw [Hxx.out]; exact HX.out, ?_⟩, hX⟩
        rw [decide_eq_true hlt2, Hxx.out]
        rfl
end
end Go.Proofs.YtdfnphgjjodfoaaGreatDoor.Fd
