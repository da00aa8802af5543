/- Two rows of the call's own beside each other; a quiet call of has. -/
import Derived.Test.YtdemnbbofigcdaaOw
import Derived.Test.YtdemnbbofigcdaaInsL
import Derived.Test.YtdemnbbofigcdaaHasR
import Derived.Deep.QuietTactic
import Derived.BigQuiet
namespace Go.Proofs.Ytdemnbbofigcdaa
open Go.RowKit

theorem own_block (A : Option Addr) (n c : Nat) : (Value.slice A n c).ownBlock = blk A := by cases A <;> rfl
theorem OwnI.grown {w w' : World} {base c : Nat} {row : Option Nat} {A : Option Addr} {l : List Int} (h : OwnI w base A c l) (hg : w.grownBy w' row) (hne : blk A ≠ row ∨ A = none) : OwnI w' base A c l := by
  refine World.ownsRow.kept h hg ?_
  rw [own_block]
  rcases hne with h | h
  · exact .inr h
  · rw [h]; exact .inl rfl
theorem own_init {w : World} {base c : Nat} {A : Option Addr} {o t : List Int} (h : OwnI w base A c (o ++ t)) (hA : A ≠ none) : OwnI w base A c o := by
  refine ⟨by rw [cellsI_len, Nat.mul_one], .inr ?_⟩
  rcases h.2 with ⟨hv, _⟩ | ⟨g, cap, cu, hv, hb, hg, h3, h4, h5, h6⟩
  · injection hv with hv
    exact absurd hv hA
  · injection hv with hv1 hv2 hv3
    subst hv1 hv3
    rw [List.length_append] at h3
    refine ⟨g, _, cu, rfl, hb, hg, by omega, h4, h5, ?_⟩
    have e1 : (cellsI (o ++ t)).take (o.length * 1) = cellsI o := by rw [cellsI_append, Nat.mul_one, List.take_append_of_le_length (by rw [cellsI_len]; exact Nat.le_refl _), List.take_of_length_le (by rw [cellsI_len]; exact Nat.le_refl _)]
    rw [← e1, ← h6, List.take_take, List.length_append, Nat.min_eq_left (by omega)]
theorem wpList_app_one {w : World} {ops : Array Oper} {rest : List Oper} {o : Oper} {a : Act} {Q : Exit → Act → World → Prop} (hgd : o.guard = none) (s x : Operand)
    (ho : o.op = .call { callee := .builtin .append, args := #[s, x], argTypes := #[23, 23] }) {base c : Nat} {A : Option Addr} {l : List Int} (y : Int) {gx : Nat}
    (hs : a.eval s = .slice A l.length c) (hx : a.eval x = .slice (some ⟨gx, 0, none⟩) 1 1) (hnew : w.cell? ⟨gx, 0, none⟩ = some (.int .i64 y)) (hown : OwnI w base A c l) (hbase : base ≤ w.heap.size) (hl : l.length ≤ 1000000000)
    (h : ∀ g c' w', OwnI w' base (some ⟨g, 0, none⟩) c' (l ++ [y]) → w.grownBy w' (blk A) → (blk A = some g ∨ g = w.heap.size) → wpList Try.prog ops Q rest (a.put o.dst (.slice (some ⟨g, 0, none⟩) (l.length + 1) c')) w') : wpList Try.prog ops Q (o :: rest) a w := by
  obtain ⟨i0, hi, hz0, hz1, hz2⟩ := info_parts info_i64
  refine wpList_append_lies _ hgd s x 23 ho base 3 i0 (.int .i64 0) 1 8 Try.underlying23 hi hz0 hz1 hz2 rfl (by decide) _ l.length (cellsI l) hs hown ⟨gx, 0, none⟩ 1 1 [.int .i64 y] hx (by rfl) (fun j u hj => ?_) (fun u hu => one_i64 (x := y) hu) (by decide) (by unfold maxLen; omega) (by omega) hbase _ rfl ?_
  · match j, hj with
    | 0, hj =>
      have hj : Value.int .i64 y = u := by simpa using hj
      rw [← hj]
      exact hnew
    | j + 1, hj => simp at hj
  · intro g c' w' h1 h2 h3 _
    rw [own_block] at h2 h3
    refine h g c' w' ?_ h2 h3
    unfold OwnI
    rw [List.length_append, cellsI_append]
    exact h1
theorem ow_own_apart {w w' : World} {base c2 : Nat} {A1 A2 : Option Addr} {l : List Int} (h : OwnI w base A2 c2 l) (hg : w.grownBy w' (blk A1)) (hne : blk A1 = none ∨ blk A1 ≠ blk A2) : OwnI w' base A2 c2 l := by
  rcases hne with hne | hne
  · rw [hne] at hg
    cases A2 with
    | none => exact h.grown hg (.inr rfl)
    | some a => exact h.grown hg (.inl (fun e => by cases e))
  · exact h.grown hg (.inl (fun e => hne e.symm))
theorem has_q {A : Option Addr} {l : List Int} {c n : Nat} {x : Int} {v : Bool} {w : World} (hl : Rd w w.heap.size A c (cellsI l)) (hm : l.length ≤ 9223372036854775807) (hv : hasB l x = v) :
    Calls Try.prog 37 #[.slice A l.length c, .int .i64 x] (w.drewN n) fun e w'' => e = .returned (.bool v) ∧ ∃ k, w'' = w.drewN k := by
  subst hv
  exact (has_any A l c x (w.drewN n) hl hm).mono fun _ _ ⟨h, e⟩ => ⟨h, n, e.symm⟩
theorem has_q2 {A : Option Addr} {l : List Int} {c n m : Nat} {x : Int} {v : Bool} {w : World} (hl : Rd w w.heap.size A c (cellsI l)) (hm : l.length ≤ 9223372036854775807) (hv : hasB l x = v) :
    Calls Try.prog 37 #[.slice A l.length c, .int .i64 x] (w.drewN (n + m)) fun e w'' => e = .returned (.bool v) ∧ ∃ k, w'' = w.drewN (n + k) := by
  subst hv
  exact (has_any A l c x (w.drewN (n + m)) hl hm).mono fun _ _ ⟨h, e⟩ => ⟨h, m, e.symm⟩
end Go.Proofs.Ytdemnbbofigcdaa
