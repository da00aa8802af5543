/- A copy of a string and what is appended to it: rows of the call's own, as they are read; while a law's copy grows, or is changed. -/
import Derived.Test.YtelmkihndmkbkaaOpen
namespace Go.Proofs.Ytelmkihndmkbkaa
open Go.RowKit

theorem balloc {w w1 : World} (h : Below w.heap.size w w1) (o : Obj) : Below w.heap.size w (w1.alloc o) := h.alloc h.size o
/-- The row of a literal without elements. -/
theorem own_none (w : World) (base : Nat) (hb : base ≤ w.heap.size) : (w.alloc (.cells #[] 5)).ownsRow base 5 1 (.slice (some ⟨w.heap.size, 0, none⟩) 0 0) 0 [] :=
  World.ownsRow_lit w #[] 0 hb (by unfold maxLen; omega) rfl
theorem own_cap {w : World} {base e n c : Nat} {A : Option Addr} {xs : List Value} (h : w.ownsRow base e 1 (.slice A n c) n xs) : c ≤ 9223372036854775807 := by
  rcases h.2 with ⟨hv, _⟩ | ⟨g, cap, cur, hv, _, _, _, hm, _⟩
  · injection hv with _ _ h3
    omega
  · injection hv with _ _ h3
    unfold maxLen at hm
    omega
theorem Rd.feed8 {w : World} {B c : Nat} {A : Option Addr} {l : List UInt8} (h : Rd w B A c (cells8 l)) : Feed w (.slice A l.length c) l.length (cells8 l) := by
  have := h.feed
  rwa [cells8_len] at this
theorem zero_one {u : Value} (h : u ∈ #[Value.int .u8 0].toList) : u.oneCell' = true := by
  simp at h
  subst h
  rfl
theorem cells8_zero (l : List UInt8) : cells8 l ++ #[Value.int .u8 0].toList = cells8 (l ++ [0]) := by
  rw [cells8_append]
  rfl
/-- While zero bytes are being added: the copy, as long as it belongs to the same blocks. -/
def EndAt (l o : List UInt8) : Prop :=
  (∀ h, tagL h o = tagL h l) ∧ l.length ≤ o.length ∧ o.length ≤ (l.length + 7) / 8 * 8
theorem endAt_zero (l : List UInt8) : EndAt l l := ⟨fun _ => rfl, Nat.le_refl _, by omega⟩
theorem endAt_next {l o : List UInt8} (h : EndAt l o) (h8 : o.length % 8 ≠ 0) : EndAt l (o ++ [0]) := by
  obtain ⟨h1, h2, h3⟩ := h
  refine ⟨fun x => by rw [tagL_zero h8, h1], ?_, ?_⟩ <;> rw [List.length_append] <;> simp only [List.length_singleton] <;> omega
/-- The three tags of a round, each with a letter. -/
theorem end_facts {k : Nat} {l o : List UInt8} (h : EndAt l o) (h8 : o.length % 8 ≠ 0) (hl : l.length ≤ 500) : ∃ s t r : Int, s = (tag k (o ++ [0]) : Nat) ∧ t = (tag k l : Nat) ∧ r = (tag k o : Nat) ∧ ¬ s = t ∧ ¬ s = r := by
  obtain ⟨h1, h2, h3⟩ := h
  have hz : (o ++ [(0 : UInt8)]).length = o.length + 1 := by simp
  have n1 := tag_len (k := k) (a := o ++ [0]) (b := l) (by omega) (by omega) (by rw [tagL_zero h8, h1]) (by omega)
  have n2 := tag_len (k := k) (a := o ++ [0]) (b := o) (by omega) (by omega) (tagL_zero h8) (by omega)
  exact ⟨_, _, _, rfl, rfl, rfl, by omega, by omega⟩
theorem quiet_tag {key n q c : Nat} {A : Option Addr} {l : List UInt8} {w : World} {z : Int} (hz : z = (tag key l : Nat)) (hk : key < 18446744073709551616) (hp : Rd w w.heap.size A c (cells8 l)) (hq : q = l.length) (hl : l.length ≤ 1000) (hc : c ≤ 9223372036854775807) :
    Calls Try.prog 16 #[.int .u64 (key : Int), .slice A q c] (w.drewN n) fun e w'' => e = .returned (.int .u64 z) ∧ ∃ k, w'' = w.drewN k := by
  subst hq hz
  exact (tag_any key A l c (w.drewN n) hk hp (by omega) hc).mono fun _ _ ⟨h, e⟩ => ⟨h, n, e.symm⟩
theorem own_zero {w : World} {base c : Nat} {A : Option Addr} {l : List UInt8} (h : w.ownsRow base 5 1 (.slice A (0 + l.length) c) (0 + l.length) ([] ++ cells8 l)) : w.ownsRow base 5 1 (.slice A l.length c) l.length (cells8 l) := by
  rw [Nat.zero_add] at h
  exact h
theorem own_next {w : World} {base c : Nat} {A : Option Addr} {o : List UInt8} (h : w.ownsRow base 5 1 (.slice A (o.length + 1) c) (o.length + 1) (cells8 o ++ #[Value.int .u8 0].toList)) : w.ownsRow base 5 1 (.slice A (o ++ [(0 : UInt8)]).length c) (o ++ [(0 : UInt8)]).length (cells8 (o ++ [0])) := by
  rw [cells8_zero] at h
  rw [List.length_append]
  exact h
theorem own_shape' {w : World} {base e n c : Nat} {A : Option Addr} {xs : List Value} (h : w.ownsRow base e 1 (.slice A n c) n xs) : n ≤ c := by
  obtain ⟨A', c', hv, h1, _⟩ := own_shape h
  injection hv with e1 e2 e3
  omega
def lenOf : Value → Nat
  | .slice _ n _ => n
  | _ => 0
end Go.Proofs.Ytelmkihndmkbkaa
