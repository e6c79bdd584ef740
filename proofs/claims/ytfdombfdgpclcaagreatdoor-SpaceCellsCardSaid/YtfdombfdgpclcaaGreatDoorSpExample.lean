/-
  The chapter's example, step by step: what the law's alive asks.
-/
import Derived.Test.YtfdombfdgpclcaaGreatDoorSpAlive
namespace Go.Proofs.YtfdombfdgpclcaaGreatDoor.Sp
open Go.RowKit Go.Proofs.YtfdombfdgpclcaaGreatDoor.Ar Go.Proofs.YtfdombfdgpclcaaGreatDoor.Sh
open Go.Proofs.YtfdombfdgpclcaaGreatDoor.Hd (Hd Fields ofL)
open Go.Proofs.YtfdombfdgpclcaaGreatDoor.Tb (Ty Tab Made NewPost newF sizeE sizeT)
open Go.Proofs.YtfdombfdgpclcaaGreatDoor.Bt (bit atI prevO nextO hasV)
open Go.Proofs.YtfdombfdgpclcaaGreatDoor.Wd (Table)
set_option linter.unusedVariables false

/-- A slice of cells is none of the blocks that may turn. -/
theorem own_turn {w x : World} {s : Ids} {l : List Ty} {cs L : List Cel} {v : Value} (h : Has1 w x s l cs) (hO : Own x v L) : ∀ g ∈ s.turn, v.ownBlock ≠ some g := by
  obtain ⟨ws, bs, m⟩ := h
  obtain ⟨n, a⟩ := m.spc.ar
  obtain ⟨vs, bv, _⟩ := m.spc.bv
  intro g hg
  simp [Ids.turn] at hg
  rcases hg with rfl | rfl | rfl
  · exact Own.block_type hO a.head (by decide)
  · exact Own.block_type hO a.row (by decide)
  · exact Own.block_type hO bv.row (by decide)
def exT : List Ty := [⟨2, 0, 0⟩]
def exA : List Cel := [⟨0, ⟨3, 0, 0, 8⟩⟩]
def exB : List Cel := [⟨0, ⟨2, 0, 0, 1⟩⟩, ⟨1, ⟨1, 1, 3, 2⟩⟩, ⟨3, ⟨3, 0, 0, 5⟩⟩]
theorem ex_new : newF [] exT = (exT, 0) := by decide +kernel
theorem ex_size : sizeE exT 1 3 = 0 ∧ ofL exT 1 3 = ⟨1, 1, 3, 2⟩ := by decide +kernel
theorem ex_size1 : sizeE exT 1 1 = 0 := by decide +kernel
theorem ex_a : newC 16 = exA := by rfl
theorem ex_b : becomeL 0 [⟨1, ⟨1, 1, 3, 2⟩⟩] 8 = exB := by rfl
theorem ex_c : becomeL 0 [] 8 = exA := by rfl
theorem ex_ob : objs exB = [⟨1, ⟨1, 1, 3, 2⟩⟩] := by rfl
theorem ex_oa : objs exA = [] := by decide +kernel
section
variable {w x : World} {s : Ids}
theorem ex_gran {ws : List Int} {bs : List Bool} (h : Snd ws exT bs exA) : gran ws = 8 := by
  have h1 : (0 : Int) + 8 = gran ws := h.tiled.2.2.2.2
  omega
theorem ex_put (h : Has1 w x s exT exA) : Calls Tryz.prog 9 #[.pointer (some ⟨s.sp, 0, none⟩), .int .i64 1, .int .i64 1, .int .i64 3] x fun e y => e = .returned (.int .i64 0) ∧ Has1 w y s exT exB ∧ Kept s.turn x y := by
  obtain ⟨ws, bs, m⟩ := h
  have hg := ex_gran m.snd
  obtain ⟨S, hS, P, c, Q, hcs, c1, c2, hf⟩ := m.snd.gap 1 (by decide) (by omega)
  have hc : c = ⟨0, ⟨3, 0, 0, 8⟩⟩ := by
    have : c ∈ exA := by rw [hcs]; simp
    exact List.mem_singleton.1 this
  subst hc
  have hN := (show Snd ws exT bs ([] ++ ⟨0, ⟨3, 0, 0, 8⟩⟩ :: []) from m.snd).put m.spc.tab.len (g := 1) ex_size.1 (by decide) (by decide) (by rw [ex_size.2]; decide)
  refine (put_yes m.glob m.spc 1 1 3 (by decide) (by decide) ex_size.1 (by decide) (by omega) S hS _ hf (by decide) (by decide) (by decide) (by rw [ex_size.2]; decide) (by decide)).mono ?_
  rintro e y ⟨he, hS', hk⟩
  refine ⟨he, ⟨_, _, m.turned hk hS' ?_⟩, hk⟩
  have e1 : ([] : List Cel) ++ becomeL 0 [⟨1, ofL exT 1 3⟩] 8 ++ [] = exB := by rw [ex_size.2, List.nil_append, List.append_nil]; exact ex_b
  exact e1 ▸ hN
theorem ex_drop (h : Has1 w x s exT exB) : Calls Tryz.prog 11 #[.pointer (some ⟨s.sp, 0, none⟩), .int .i64 1] x fun e y => e = .returned (.int .i64 0) ∧ Has1 w y s exT exA ∧ Kept s.turn x y := by
  obtain ⟨ws, bs, m⟩ := h
  have hgr : gran ws = 8 := by
    have h1 : (0 : Int) + 1 + 2 + 5 = gran ws := m.snd.tiled.2.2.2.2.2.2.2.2.2.2.2.2
    omega
  have hobj : ∀ i : Nat, bit bs i = true ↔ i = 1 := fun i => by
    rw [m.snd.agree i, ex_ob]
    constructor
    · rintro ⟨c, hc, e⟩
      rw [List.mem_singleton.1 hc] at e
      simp only at e
      omega
    · rintro rfl
      exact ⟨_, List.mem_singleton.2 rfl, rfl⟩
  have hp : prevEndV bs ws 1 = 0 := by
    unfold prevEndV
    cases ho : prevO bs (1 - 1) with
    | none => rfl
    | some k =>
      obtain ⟨k1, k2, _⟩ := prevO_some ho
      have := (hobj k).1 k2
      omega
  have hn : nextStartV bs ws 1 = 8 := by
    unfold nextStartV
    cases ho : nextO bs (1 + 1) true with
    | none => exact hgr
    | some k =>
      obtain ⟨k1, k2, _⟩ := nextO_some (by decide) ho
      have := (hobj k).1 k2
      omega
  have hv : hasV bs 1 = true := by
    have := (hobj 1).2 rfl
    unfold hasV
    rw [show (1 : Int).toNat = 1 from rfl, this]
    rfl
  refine (drop_yes m.glob m.spc 1 (by decide) (by decide) hv (by rw [hp]; decide) (by rw [hn]; decide)).mono ?_
  rintro e y ⟨he, hS, hk⟩
  have hN := (show Snd ws exT bs ([] ++ exB ++ []) by rw [List.nil_append, List.append_nil]; exact m.snd).replace (ws1 := ws) (os := []) (f := 0) (e := 8) rfl (by rw [← hgr]; exact m.snd.tiled) (by rw [hgr]; rfl) rfl (fun _ _ _ => rfl) (show (0 : Int) ≤ 8 by decide)
  unfold dropW dropB at hS
  rw [hp, hn] at hS
  refine ⟨he, ⟨_, _, m.turned hk hS ?_⟩, hk⟩
  have e1 : ([] : List Cel) ++ becomeL 0 [] 8 ++ [] = exA := by rw [List.nil_append, List.append_nil]; exact ex_c
  exact e1 ▸ hN
theorem ex_drop2 (h : Has1 w x s exT exA) : Calls Tryz.prog 11 #[.pointer (some ⟨s.sp, 0, none⟩), .int .i64 1] x fun e y => e = .returned (.int .i64 3) ∧ Has1 w y s exT exA := by
  refine (one_drop h 1 (by decide) (by decide)).mono ?_
  rintro e y ⟨er, cs', he, h1, hk, ⟨rfl, rfl, _⟩ | ⟨rfl, c, hc, hp⟩, _⟩
  · exact ⟨he, h1⟩
  · rw [ex_oa] at hp
    exact absurd hp.length_eq (by simp)
theorem ex_put2 (h : Has1 w x s exT exA) : Calls Tryz.prog 9 #[.pointer (some ⟨s.sp, 0, none⟩), .int .i64 8, .int .i64 1, .int .i64 1] x fun e y => e = .returned (.int .i64 2) ∧ Kept [] w y := by
  obtain ⟨ws, bs, m⟩ := h
  have hg := ex_gran m.snd
  exact (put_out m.glob m.spc 8 1 1 (by decide) (by decide) (by decide) (by decide) ex_size1 (.inr (by omega))).mono fun e y ⟨he, hk⟩ => ⟨he, m.kept.trans hk⟩
end
end Go.Proofs.YtfdombfdgpclcaaGreatDoor.Sp
