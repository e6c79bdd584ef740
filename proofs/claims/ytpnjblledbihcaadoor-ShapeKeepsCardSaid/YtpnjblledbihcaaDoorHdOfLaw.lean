/-
  What the laws on tables' headers hand on: contracts of Of and Fits, of a table, of none, of the document's row.
-/
import Derived.Test.YtpnjblledbihcaaDoorHdOf
import Derived.Test.YtpnjblledbihcaaDoorHdAlive
import Derived.Test.YtpnjblledbihcaaDoorGTb
namespace Go.Proofs.YtpnjblledbihcaaDoor.Hd
open Go.RowKit Go.Proofs.YtpnjblledbihcaaDoor.Ar
set_option linter.unusedVariables false
open Go.Proofs.YtpnjblledbihcaaDoor.Tb (Ty Tab Seen Made NewPost RowPost newF newF_len addE sizeT sizeE)

theorem newF_fit {l : List Ty} (acc : List Ty) (h : (newF acc l).2 = 0) : (∀ x ∈ l, x.fit) := by
  induction l generalizing acc with
  | nil => exact fun x hx => by cases hx
  | cons x l ih =>
    by_cases he : addE acc x = 0
    · have e : newF acc (x :: l) = newF (acc ++ [x]) l := if_pos he
      rw [e] at h
      have h1 := ih _ h
      have hx : x.fit := by
        unfold addE at he
        split at he
        · cases he
        · rename_i hx
          exact Decidable.not_not.1 hx
      intro y hy
      rcases List.mem_cons.1 hy with rfl | hy
      · exact hx
      · exact h1 y hy
    · have e : newF acc (x :: l) = ([], addE acc x) := if_neg he
      rw [e] at h
      exact absurd h he
/-- An error of Of's is like any other to Fits. -/
theorem fit_err (o : Hd) (oe : Int) (x : Hd) (h : oe ≠ 0) : fitE o oe x = fitE Hd.zero 1 x := by
  unfold fitE
  have h1 : (oe ≠ 0 ∨ o ≠ x) := .inl h
  have h2 : ((1 : Int) ≠ 0 ∨ Hd.zero ≠ x) := .inl (by decide)
  rw [if_pos h1, if_pos h2]
/-- The header of an object of a list's types. -/
def ofL (l : List Ty) (i n : Int) : Hd := ofH i n (sizeT l i n) (sizeE l i n)
def fitL (l : List Ty) (x : Hd) : Int := fitE (ofL l x.ty x.ln) (sizeE l x.ty x.ln) x
theorem sizeE_nil (i n : Int) : sizeE [] i n = 3 := by
  unfold sizeE Tb.hasT
  have : ¬ ((1 : Int) ≤ i ∧ i ≤ (([] : List Ty).length : Int)) := by simp; omega
  rw [decide_eq_false this]
  rfl
section
variable {w : World} {A : Option Addr} {c p : Nat} {l : List Ty}
theorem of_tab (h : Tab w p A c l) (i n : Int) (hi0 : -9223372036854775808 ≤ i) (hi1 : i ≤ 9223372036854775807) :
    Calls Tryd.prog 55 #[.pointer (some ⟨p, 0, none⟩), .int .i64 i, .int .i64 n] w fun e w' => e = .returned (.tuple #[(ofL l i n).val, .int .i64 (sizeE l i n)]) ∧ Kept [] w w' :=
  of_ok _ i n (sizeT l i n) (sizeE l i n) fun y k => Tb.size_ok (h.keep0 k) i n hi0 hi1
theorem of_nil (i n : Int) : Calls Tryd.prog 55 #[.pointer none, .int .i64 i, .int .i64 n] w fun e w' => e = .returned (.tuple #[Hd.zero.val, .int .i64 1]) ∧ Kept [] w w' :=
  of_ok _ i n 0 1 fun y k => Tb.size_nil y i n
theorem dof_row (hS : Seen w A l) (hok : ∀ x ∈ l, x.ok ∧ x.fit) (hlen : l.length ≤ 100000) (i n : Int) (hi0 : -9223372036854775808 ≤ i) (hi1 : i ≤ 9223372036854775807) :
    Calls Tryd.prog 58 #[.slice A l.length c, .int .i64 i, .int .i64 n] w fun e w' => e = .returned (.tuple #[(ofL l i n).val, .int .i64 (sizeE l i n)]) ∧ Kept [] w w' :=
  dof_ok _ i n (sizeT l i n) (sizeE l i n) fun y k => Tb.dsize_ok (c := c) (hS.keep0 k) hok hlen i n hi0 hi1
theorem fits_tab (h : Fields w) (hT : Tab w p A c l) (x : Hd) (ok : x.ok) :
    Calls Tryd.prog 43 #[.pointer (some ⟨p, 0, none⟩), x.val] w fun e w' => e = .returned (.int .i64 (fitL l x)) ∧ Kept [] w w' :=
  fits_ok h _ x ok _ _ fun y k => of_tab (hT.keep0 k) x.ty x.ln ok.t0 ok.t1
theorem fits_nil (h : Fields w) (x : Hd) (ok : x.ok) :
    Calls Tryd.prog 43 #[.pointer none, x.val] w fun e w' => e = .returned (.int .i64 (fitE Hd.zero 1 x)) ∧ Kept [] w w' :=
  fits_ok h _ x ok _ _ fun y k => of_nil x.ty x.ln
theorem dfits_row (hS : Seen w A l) (hok : ∀ x ∈ l, x.ok ∧ x.fit) (hlen : l.length ≤ 100000) (x : Hd) (ok : x.ok) :
    Calls Tryd.prog 50 #[.slice A l.length c, x.val] w fun e w' => e = .returned (.int .i64 (fitL l x)) ∧ Kept [] w w' :=
  dfits_ok _ x ok _ _ fun y k => dof_row (hS.keep0 k) hok hlen x.ty x.ln ok.t0 ok.t1
theorem dfits_nil (x : Hd) (ok : x.ok) :
    Calls Tryd.prog 50 #[.slice none 0 0, x.val] w fun e w' => e = .returned (.int .i64 (fitE Hd.zero 1 x)) ∧ Kept [] w w' := by
  have := dfits_row (w := w) (A := none) (c := 0) (l := []) (Tb.Seen.nil _ _) (fun x hx => by cases hx) (by decide) x ok
  unfold fitL at this
  rw [fit_err _ _ x (by rw [sizeE_nil]; decide)] at this
  exact this
end
end Go.Proofs.YtpnjblledbihcaaDoor.Hd
