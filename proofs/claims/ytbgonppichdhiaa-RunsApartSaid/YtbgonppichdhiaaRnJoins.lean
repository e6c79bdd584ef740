/-
  join at a link of a set, upwards and downwards; a link laid behind those ahead.
-/
import Derived.Test.YtbgonppichdhiaaRnOf
namespace Go.Proofs.Ytbgonppichdhiaa.Rn
open Go.RowKit Go.Proofs.Ytbgonppichdhiaa.Ar Go.Proofs.Ytbgonppichdhiaa.Bt Go.Proofs.Ytbgonppichdhiaa.Lk Go.Sort
set_option linter.unusedVariables false

theorem kept_also {S T : List Nat} {a b c : World} (h : Kept S a b) (k : Kept T b c) (hT : ∀ i ∈ T, i ∈ S ∨ a.heap.size ≤ i) : Kept S a c :=
  ⟨k.os.trans h.os, k.tape.trans h.tape, k.out.trans h.out, Nat.le_trans h.more k.more, fun i hi hS =>
    (k.old i (Nat.lt_of_lt_of_le hi h.more) fun hs => by
      rcases hT i hs with h1 | h1
      · exact hS h1
      · omega).trans (h.old i hi hS)⟩
def upN (m : Nd) : List Nd → List Nd
  | [] => [m]
  | q :: Q => if q.a = m.a + m.l then ⟨m.b, m.a, m.l + q.l⟩ :: Q else m :: q :: Q
def downN (P : List Nd) : List Nd → List Nd
  | [] => P
  | q :: Q => match P.getLast? with
    | none => q :: Q
    | some p => if q.a = p.a + p.l then P.dropLast ++ ⟨p.b, p.a, p.l + q.l⟩ :: Q else P ++ q :: Q
theorem upN_runs (m : Nd) (Q : List Nd) : runsIn (upN m Q) = up m.r (runsIn Q) := by
  cases Q with
  | nil => rfl
  | cons q Q =>
    show runsIn (if q.a = m.a + m.l then _ else _) = (if q.a = m.a + m.l then _ else _)
    split <;> rfl
theorem downN_snoc (P0 : List Nd) (p : Nd) (u : Nd) (Q : List Nd) : downN (P0 ++ [p]) (u :: Q) = P0 ++ upN p (u :: Q) := by
  show (match (P0 ++ [p]).getLast? with | none => u :: Q | some p' => if u.a = p'.a + p'.l then (P0 ++ [p]).dropLast ++ ⟨p'.b, p'.a, p'.l + u.l⟩ :: Q else (P0 ++ [p]) ++ u :: Q) = P0 ++ (if u.a = p.a + p.l then ⟨p.b, p.a, p.l + u.l⟩ :: Q else p :: u :: Q)
  rw [List.getLast?_concat, List.dropLast_concat]
  simp only
  split
  · rfl
  · rw [List.append_assoc]; rfl
theorem down_snoc (P0 : List R) (p : R) (u : R) (Q : List R) : down (P0 ++ [p]) (u :: Q) = P0 ++ up p (u :: Q) := by
  have hd : down (P0 ++ [p]) (u :: Q) = match (P0 ++ [p]).getLast? with | none => u :: Q | some p' => if u.1 = p'.1 + p'.2 then (P0 ++ [p]).dropLast ++ (p'.1, p'.2 + u.2) :: Q else (P0 ++ [p]) ++ u :: Q := by
    generalize P0 ++ [p] = P
    cases P <;> rfl
  rw [hd, List.getLast?_concat, List.dropLast_concat]
  show (if u.1 = p.1 + p.2 then P0 ++ (p.1, p.2 + u.2) :: Q else (P0 ++ [p]) ++ u :: Q) = P0 ++ (if u.1 = p.1 + p.2 then (p.1, p.2 + u.2) :: Q else p :: u :: Q)
  split
  · rfl
  · rw [List.append_assoc]; rfl
theorem downN_runs (P : List Nd) (u : Nd) (Q : List Nd) : runsIn (downN P (u :: Q)) = down (runsIn P) (runsIn (u :: Q)) := by
  rcases List.eq_nil_or_concat P with rfl | ⟨P0, p, rfl⟩
  · rfl
  · rw [List.concat_eq_append, downN_snoc, runsIn_append, upN_runs, runsIn_append]
    exact (down_snoc (runsIn P0) p.r u.r (runsIn Q)).symm
theorem upN_cons (m : Nd) (Q : List Nd) : ∃ l Q', upN m Q = ⟨m.b, m.a, l⟩ :: Q' := by
  cases Q with
  | nil => exact ⟨m.l, [], rfl⟩
  | cons q Q =>
    show ∃ l Q', (if q.a = m.a + m.l then _ else _) = _
    split
    · exact ⟨_, _, rfl⟩
    · exact ⟨m.l, _, rfl⟩
theorem upN_blocks (m : Nd) (Q : List Nd) : ∀ n ∈ upN m Q, n.b = m.b ∨ ∃ k ∈ Q, n.b = k.b := by
  cases Q with
  | nil => intro n hn; exact .inl (by rw [List.mem_singleton.1 hn])
  | cons q Q =>
    intro n hn
    have hn' : n ∈ (if q.a = m.a + m.l then (⟨m.b, m.a, m.l + q.l⟩ : Nd) :: Q else m :: q :: Q) := hn
    split at hn'
    · rcases List.mem_cons.1 hn' with rfl | h
      · exact .inl rfl
      · exact .inr ⟨n, by simp [h], rfl⟩
    · rcases List.mem_cons.1 hn' with rfl | h
      · exact .inl rfl
      · exact .inr ⟨n, h, rfl⟩
theorem downN_blocks (P : List Nd) (u : Nd) (Q : List Nd) : ∀ n ∈ downN P (u :: Q), (∃ k ∈ P, n.b = k.b) ∨ ∃ k ∈ u :: Q, n.b = k.b := by
  rcases List.eq_nil_or_concat P with rfl | ⟨P0, p, rfl⟩
  · intro n hn; exact .inr ⟨n, hn, rfl⟩
  · rw [List.concat_eq_append, downN_snoc]
    intro n hn
    rcases List.mem_append.1 hn with h | h
    · exact .inl ⟨n, by simp [h], rfl⟩
    · rcases upN_blocks p (u :: Q) n h with h | h
      · exact .inl ⟨p, by simp, h⟩
      · exact .inr h
/-- Numbers that are small. -/
def Small (ns : List Nd) : Prop := ∀ n ∈ ns, n.a + n.l ≤ 65536
theorem Small.up {m : Nd} {Q : List Nd} (h : Small (m :: Q)) : Small (upN m Q) := by
  cases Q with
  | nil => exact h
  | cons q Q =>
    intro n hn
    have hn' : n ∈ (if q.a = m.a + m.l then (⟨m.b, m.a, m.l + q.l⟩ : Nd) :: Q else m :: q :: Q) := hn
    split at hn'
    · rcases List.mem_cons.1 hn' with rfl | h'
      · have := h q (by simp)
        show m.a + (m.l + q.l) ≤ 65536
        omega
      · exact h n (by simp [h'])
    · exact h n hn'

theorem joinUp (x : World) (p : Nat) (P : List Nd) (m : Nd) (Q : List Nd) (h : Rs x p (P ++ m :: Q)) (hs : Small (m :: Q)) :
    Calls Try.prog 30 #[.pointer (some ⟨m.b, 0, none⟩)] x fun e y => (∃ v, e = .returned v) ∧ Rs y p (P ++ upN m Q) ∧ Kept [m.b] x y := by
  obtain ⟨h1, h2, h3⟩ := rs_iff.1 h
  rw [Seg.cons] at h2
  have hm := hs m (by simp)
  cases Q with
  | nil => exact (join_none x m.b _ m.a m.l h2.1).mono fun e y ⟨he, hk⟩ => ⟨he, h.keep0 hk, hk.none _⟩
  | cons q Q =>
    have hq := hs q (by simp)
    have h22 := h2.2
    rw [Seg.cons] at h22
    by_cases c : q.a = m.a + m.l
    · have e : upN m (q :: Q) = ⟨m.b, m.a, m.l + q.l⟩ :: Q := if_pos c
      rw [e]
      have hap := h3
      rw [List.map_append, List.nodup_append] at hap
      obtain ⟨n1, n2, n3⟩ := hap
      rw [List.map_cons, List.nodup_cons, List.map_cons, List.nodup_cons] at n2
      obtain ⟨n4, n5, n6⟩ := n2
      have hbb : m.b ≠ q.b := fun hb => n4 (by rw [hb]; simp)
      refine (join_yes x m.b q.b _ m.a m.l q.a q.l _ h2.1 h22.1 hbb (by omega) (by omega) (by omega) (by omega)).mono ?_
      rintro e y ⟨he, hk, hn⟩
      refine ⟨he, rs_iff.2 ⟨?_, ?_, ?_⟩, hk⟩
      · have hpm : p ≠ m.b := fun hb => (h.mem m (by simp)).2 hb.symm
        exact h1.kept hk (by simp; exact hpm) fun n hn => by
          rw [List.mem_singleton]
          exact fun hb => n3 n.b (List.mem_map_of_mem hn) m.b (by simp) hb
      · rw [Seg.cons]
        refine ⟨?_, h22.2.kept hk fun n hn => ?_⟩
        · show Has y m.b _ (linkV ((m.a : Nat) : Int) ((m.l + q.l : Nat) : Int) (front none Q))
          rw [Int.natCast_add]
          exact hn
        · rw [List.mem_singleton]
          exact fun hb => n4 (by rw [← hb]; exact List.mem_cons_of_mem _ (List.mem_map_of_mem hn))
      · rw [List.map_append, List.nodup_append]
        refine ⟨n1, ?_, fun a ha b hb => n3 a ha b ?_⟩
        · rw [List.map_cons, List.nodup_cons]
          exact ⟨fun hb => n4 (List.mem_cons_of_mem _ hb), n6⟩
        · rw [List.map_cons] at hb ⊢
          rcases List.mem_cons.1 hb with rfl | hb
          · exact List.mem_cons_self
          · exact List.mem_cons_of_mem _ (List.mem_cons_of_mem _ hb)
    · have e : upN m (q :: Q) = m :: q :: Q := if_neg c
      rw [e]
      exact (join_no x m.b q.b _ m.a m.l q.a q.l _ h2.1 h22.1 (by omega) (by omega) (by omega)).mono fun e y ⟨he, hk⟩ => ⟨he, h.keep0 hk, hk.none _⟩
theorem joinDown (x : World) (p : Nat) (P : List Nd) (u : Nd) (Q : List Nd) (h : Rs x p (P ++ u :: Q)) (hs : Small (P ++ u :: Q)) :
    Calls Try.prog 30 #[.pointer (some ⟨lastB p P, 0, none⟩)] x fun e y => (∃ v, e = .returned v) ∧ Rs y p (downN P (u :: Q)) ∧ Kept [lastB p P] x y := by
  rcases List.eq_nil_or_concat P with rfl | ⟨P0, m, rfl⟩
  · have hsg := h.seg
    rw [List.nil_append, Seg.cons] at hsg
    exact (join_no x p u.b _ (-1) 0 u.a u.l _ h.head hsg.1 (by omega) (by omega) (by omega)).mono fun e y ⟨he, hk⟩ => ⟨he, h.keep0 hk, hk.none _⟩
  · rw [List.concat_eq_append] at *
    rw [downN_snoc, lastB_snoc]
    rw [List.append_assoc] at h hs
    exact joinUp x p P0 m (u :: Q) h fun n hn => hs n (List.mem_append_right _ hn)
/-- A new link, laid behind those ahead of it. -/
theorem rs_laid {x : World} {p : Nat} {P Q : List Nd} {m : Nd} (h : Rs x p (P ++ Q)) (hm : Has x m.b 52 (linkV m.a m.l (ptr Q))) (hnew : ∀ n ∈ P ++ Q, n.b ≠ m.b) :
    Rs (x.setCell ⟨lastB p P, 2, none⟩ (.pointer (some ⟨m.b, 0, none⟩))) p (P ++ m :: Q) := by
  obtain ⟨h1, h2, h3⟩ := rs_iff.1 h
  have hk : Kept [lastB p P] x (x.setCell ⟨lastB p P, 2, none⟩ (.pointer (some ⟨m.b, 0, none⟩))) := (Kept.refl _ x).setCell _ _ (.inl (by simp))
  have hap := h3
  rw [List.map_append, List.nodup_append] at hap
  obtain ⟨n1, n2, n3⟩ := hap
  have hmp : m.b ≠ p := Has.block_type hm h1.1 (by decide)
  have hlm : m.b ≠ lastB p P := by
    rcases lastB_mem p P with e | ⟨n, hn, e⟩
    · rw [e]; exact hmp
    · rw [e]; exact (hnew n (List.mem_append_left _ hn)).symm
  refine rs_iff.2 ⟨h1.next n1 _, ?_, ?_⟩
  · rw [Seg.cons, front_none]
    refine ⟨hm.kept hk (by simp; exact hlm), h2.kept hk fun n hn => ?_⟩
    rw [List.mem_singleton]
    rcases lastB_mem p P with e | ⟨k, hk', e⟩
    · rw [e]
      obtain ⟨v, hv⟩ := h2.mem n hn
      exact Has.block_type hv h1.1 (by decide)
    · rw [e]
      exact fun hb => n3 k.b (List.mem_map_of_mem hk') n.b (List.mem_map_of_mem hn) hb.symm
  · rw [List.map_append, List.nodup_append, List.map_cons, List.nodup_cons]
    refine ⟨n1, ⟨fun hb => ?_, n2⟩, fun a ha b hb => ?_⟩
    · obtain ⟨n, hn, e⟩ := List.mem_map.1 hb
      exact hnew n (List.mem_append_right _ hn) e
    · rcases List.mem_cons.1 hb with rfl | hb
      · obtain ⟨n, hn, rfl⟩ := List.mem_map.1 ha
        exact hnew n (List.mem_append_left _ hn)
      · exact n3 a ha b hb
end Go.Proofs.Ytbgonppichdhiaa.Rn
