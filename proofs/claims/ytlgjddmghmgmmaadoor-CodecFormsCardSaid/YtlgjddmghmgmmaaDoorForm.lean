/- What is read of a string, of a list and of a frame, and what is put: they fit. Plain mathematics. -/
import Derived.Test.YtlgjddmghmgmmaaDoorCrc
namespace Go.Proofs.YtlgjddmghmgmmaaDoor

def bodyOf (l : List UInt8) : List UInt8 := (l.drop (gK l)).take (gN l)
/-! ### A length and what follows it -/
def bE (lim : Nat) (l : List UInt8) : Nat := if gE l ≠ 0 then gE l else if lim < gN l then 4 else if l.length < gK l + gN l then 5 else 0
def bB (lim : Nat) (l : List UInt8) : List UInt8 := if bE lim l = 0 then bodyOf l else []
def bK (lim : Nat) (l : List UInt8) : Nat := if bE lim l = 0 then gK l + gN l else 0
theorem bE_zero {lim : Nat} {l : List UInt8} (h : bE lim l = 0) : gE l = 0 ∧ gN l ≤ lim ∧ gK l + gN l ≤ l.length := by
  unfold bE at h
  split at h
  · exact absurd h ‹_›
  · split at h
    · omega
    · split at h
      · omega
      · exact ⟨by omega, by omega, by omega⟩
theorem bE_of {lim : Nat} {l : List UInt8} (h1 : gE l = 0) (h2 : gN l ≤ lim) (h3 : gK l + gN l ≤ l.length) : bE lim l = 0 := by
  unfold bE
  rw [if_neg (by omega), if_neg (by omega), if_neg (by omega)]
theorem bE_bad {lim : Nat} {l : List UInt8} (h : gE l ≠ 0) : bE lim l = gE l := by unfold bE; rw [if_pos h]
theorem bE_long {lim : Nat} {l : List UInt8} (h : gE l = 0) (h2 : lim < gN l) : bE lim l = 4 := by unfold bE; rw [if_neg (by omega), if_pos h2]
theorem bE_short {lim : Nat} {l : List UInt8} (h : gE l = 0) (h2 : gN l ≤ lim) (h3 : l.length < gK l + gN l) : bE lim l = 5 := by unfold bE; rw [if_neg (by omega), if_neg (by omega), if_pos h3]
theorem bE_le (lim : Nat) (l : List UInt8) : bE lim l ≤ 5 := by
  have := gE_le l
  unfold bE
  split <;> (try split) <;> (try split) <;> omega
theorem bB_bad {lim : Nat} {l : List UInt8} (h : bE lim l ≠ 0) : bB lim l = [] ∧ bK lim l = 0 := by unfold bB bK; rw [if_neg h, if_neg h]; exact ⟨rfl, rfl⟩
theorem bB_ok {lim : Nat} {l : List UInt8} (h : bE lim l = 0) : bB lim l = bodyOf l ∧ bK lim l = gK l + gN l := by unfold bB bK; rw [if_pos h, if_pos h]; exact ⟨rfl, rfl⟩
theorem body_len {l : List UInt8} (h : gK l + gN l ≤ l.length) : (bodyOf l).length = gN l := by
  unfold bodyOf
  rw [List.length_take, List.length_drop]
  omega
theorem bB_len (lim : Nat) (l : List UInt8) : (bB lim l).length ≤ l.length := by
  unfold bB
  split
  · unfold bodyOf
    rw [List.length_take, List.length_drop]
    omega
  · simp
theorem bK_le (lim : Nat) (l : List UInt8) : bK lim l ≤ l.length := by
  by_cases h : bE lim l = 0
  · rw [(bB_ok h).2]
    exact (bE_zero h).2.2
  · rw [(bB_bad h).2]
    omega
def putText (s : List UInt8) : List UInt8 := put s.length ++ s
theorem putText_len (s : List UInt8) : (putText s).length = (put s.length).length + s.length := by simp [putText]
/-- A length and a string are read back. -/
theorem text_back {lim : Nat} {s : List UInt8} (h : s.length ≤ lim) (hl : s.length < 9223372036854775808) (r : List UInt8) : bE lim (putText s ++ r) = 0 ∧ bB lim (putText s ++ r) = s ∧ bK lim (putText s ++ r) = (putText s).length := by
  obtain ⟨h1, h2, h3⟩ := get_put (s ++ r) hl
  have e : putText s ++ r = put s.length ++ (s ++ r) := by simp [putText]
  rw [e]
  have h0 : bE lim (put s.length ++ (s ++ r)) = 0 := bE_of h1 (by omega) (by rw [h2, h3, List.length_append, List.length_append]; omega)
  refine ⟨h0, ?_, ?_⟩
  · rw [(bB_ok h0).1, bodyOf, h2, h3, List.drop_left, List.take_left]
  · rw [(bB_ok h0).2, h2, h3, putText_len]
theorem body_split {l : List UInt8} (h : gE l = 0) (h2 : gK l + gN l ≤ l.length) : putText (bodyOf l) = l.take (gK l + gN l) := by
  unfold putText
  rw [body_len h2, put_get h, bodyOf]
  rw [List.take_add]
theorem text_form {lim : Nat} {l : List UInt8} (h : bE lim l = 0) : putText (bB lim l) = l.take (bK lim l) ∧ 1 ≤ bK lim l := by
  obtain ⟨h1, h2, h3⟩ := bE_zero h
  have := gK_pos h1
  rw [(bB_ok h).1, (bB_ok h).2, body_split h1 h3]
  exact ⟨rfl, by omega⟩

/-! ### Lists -/
def lsE : Nat → List UInt8 → Nat
  | 0, _ => 0
  | k + 1, l => if gE l = 0 then lsE k (l.drop (gK l)) else gE l
def lsN : Nat → List UInt8 → List Int
  | 0, _ => []
  | k + 1, l => (gN l : Int) :: lsN k (l.drop (gK l))
def lsK : Nat → List UInt8 → Nat
  | 0, _ => 0
  | k + 1, l => gK l + lsK k (l.drop (gK l))
theorem lsN_len : ∀ (k : Nat) (l : List UInt8), (lsN k l).length = k
  | 0, _ => rfl
  | k + 1, l => by rw [lsN, List.length_cons, lsN_len k]
theorem lsK_le : ∀ (k : Nat) (l : List UInt8), lsK k l ≤ l.length
  | 0, _ => Nat.zero_le _
  | k + 1, l => by
    have h1 := (gK_le l).1
    have h2 := lsK_le k (l.drop (gK l))
    rw [List.length_drop] at h2
    rw [lsK]
    omega
theorem drop_drop' (l : List UInt8) (a b : Nat) : (l.drop a).drop b = l.drop (a + b) := by rw [List.drop_drop]
theorem lsK_snoc : ∀ (k : Nat) (l : List UInt8), lsK (k + 1) l = lsK k l + gK (l.drop (lsK k l))
  | 0, l => by simp [lsK]
  | k + 1, l => by
    rw [lsK, lsK_snoc k, lsK, drop_drop']
    omega
theorem lsN_snoc : ∀ (k : Nat) (l : List UInt8), lsN (k + 1) l = lsN k l ++ [(gN (l.drop (lsK k l)) : Int)]
  | 0, l => by simp [lsK, lsN]
  | k + 1, l => by
    rw [lsN, lsN_snoc k, lsN, lsK, drop_drop']
    rfl
theorem lsE_snoc : ∀ (k : Nat) (l : List UInt8), lsE k l = 0 → lsE (k + 1) l = gE (l.drop (lsK k l))
  | 0, l, _ => by
    simp only [lsE, lsK, List.drop_zero]
    split
    · rename_i h; rw [h]
    · rfl
  | k + 1, l, h => by
    rw [lsE] at h
    split at h
    · rename_i hg
      rw [lsE, if_pos hg, lsE_snoc k _ h, lsK, drop_drop']
    · exact absurd h ‹_›
theorem lsE_stays : ∀ (k j : Nat) (l : List UInt8), lsE k l ≠ 0 → k ≤ j → lsE j l = lsE k l
  | 0, _, l, h, _ => absurd rfl h
  | k + 1, 0, l, _, hj => by omega
  | k + 1, j + 1, l, h, hj => by
    rw [lsE] at h ⊢
    rw [lsE]
    by_cases hg : gE l = 0
    · rw [if_pos hg] at h ⊢
      rw [if_pos hg]
      exact lsE_stays k j _ h (by omega)
    · rw [if_neg hg, if_neg hg]
theorem lsE_le : ∀ (k : Nat) (l : List UInt8), lsE k l ≤ 5
  | 0, _ => by simp [lsE]
  | k + 1, l => by
    rw [lsE]
    split
    · exact lsE_le k _
    · exact gE_le l
def tE (l : List UInt8) : Nat := if gE l ≠ 0 then gE l else if 10000 < gN l then 4 else lsE (gN l) (l.drop (gK l))
def tL (l : List UInt8) : List Int := if tE l = 0 then lsN (gN l) (l.drop (gK l)) else []
def tK (l : List UInt8) : Nat := if tE l = 0 then gK l + lsK (gN l) (l.drop (gK l)) else 0
theorem tE_bad {l : List UInt8} (h : gE l ≠ 0) : tE l = gE l := by unfold tE; rw [if_pos h]
theorem tE_long {l : List UInt8} (h : gE l = 0) (h2 : 10000 < gN l) : tE l = 4 := by unfold tE; rw [if_neg (by omega), if_pos h2]
theorem tE_ls {l : List UInt8} (h : gE l = 0) (h2 : gN l ≤ 10000) : tE l = lsE (gN l) (l.drop (gK l)) := by unfold tE; rw [if_neg (by omega), if_neg (by omega)]
theorem tE_zero {l : List UInt8} (h : tE l = 0) : gE l = 0 ∧ gN l ≤ 10000 ∧ lsE (gN l) (l.drop (gK l)) = 0 := by
  unfold tE at h
  split at h
  · exact absurd h ‹_›
  · split at h
    · omega
    · exact ⟨by omega, by omega, h⟩
theorem tL_bad {l : List UInt8} (h : tE l ≠ 0) : tL l = [] ∧ tK l = 0 := by unfold tL tK; rw [if_neg h, if_neg h]; exact ⟨rfl, rfl⟩
theorem tL_ok {l : List UInt8} (h : tE l = 0) : tL l = lsN (gN l) (l.drop (gK l)) ∧ tK l = gK l + lsK (gN l) (l.drop (gK l)) := by unfold tL tK; rw [if_pos h, if_pos h]; exact ⟨rfl, rfl⟩
theorem tL_len (l : List UInt8) : (tL l).length ≤ 10000 := by
  by_cases h : tE l = 0
  · rw [(tL_ok h).1, lsN_len]
    exact (tE_zero h).2.1
  · rw [(tL_bad h).1]
    simp
theorem tK_le (l : List UInt8) : tK l ≤ l.length := by
  by_cases h : tE l = 0
  · rw [(tL_ok h).2]
    have h1 := lsK_le (gN l) (l.drop (gK l))
    have h2 := (gK_le l).1
    rw [List.length_drop] at h1
    omega
  · rw [(tL_bad h).2]
    omega
theorem tE_le (l : List UInt8) : tE l ≤ 5 := by
  have := gE_le l
  have := lsE_le (gN l) (l.drop (gK l))
  unfold tE
  split <;> (try split) <;> omega
def putI (n : Int) : List UInt8 := put n.toNat
def putL : List Int → List UInt8
  | [] => []
  | n :: l => putI n ++ putL l
def putList (l : List Int) : List UInt8 := put l.length ++ putL l
theorem putL_append : ∀ a b : List Int, putL (a ++ b) = putL a ++ putL b
  | [], _ => rfl
  | n :: a, b => by rw [List.cons_append, putL, putL, putL_append a b, List.append_assoc]
theorem putL_len : ∀ l : List Int, (∀ n ∈ l, n ≤ 9223372036854775807) → (putL l).length ≤ 9 * l.length
  | [], _ => by simp [putL]
  | n :: l, h => by
    have h1 := put_nine (n := n.toNat) (by have := h n (by simp); omega)
    have h2 := putL_len l (fun x hx => h x (by simp [hx]))
    rw [putL, List.length_append, List.length_cons, putI]
    omega
theorem list_back : ∀ (l : List Int) (r : List UInt8), (∀ n ∈ l, 0 ≤ n ∧ n ≤ 9223372036854775807) → lsE l.length (putL l ++ r) = 0 ∧ lsN l.length (putL l ++ r) = l ∧ lsK l.length (putL l ++ r) = (putL l).length
  | [], r, _ => ⟨rfl, rfl, rfl⟩
  | n :: l, r, h => by
    have hn := h n (by simp)
    obtain ⟨h1, h2, h3⟩ := get_put (putL l ++ r) (n := n.toNat) (by omega)
    obtain ⟨k1, k2, k3⟩ := list_back l r (fun x hx => h x (by simp [hx]))
    have e : putL (n :: l) ++ r = put n.toNat ++ (putL l ++ r) := by simp [putL, putI]
    have hd : (put n.toNat ++ (putL l ++ r)).drop (put n.toNat).length = putL l ++ r := List.drop_left
    rw [e, List.length_cons]
    refine ⟨?_, ?_, ?_⟩
    · rw [lsE, if_pos h1, h3, hd, k1]
    · rw [lsN, h2, h3, hd, k2, Int.toNat_of_nonneg hn.1]
    · rw [lsK, h3, hd, k3, putL, List.length_append, putI]
theorem list_back_all {l : List Int} (hl : l.length ≤ 10000) (h : ∀ n ∈ l, 0 ≤ n ∧ n ≤ 9223372036854775807) (r : List UInt8) : tE (putList l ++ r) = 0 ∧ tL (putList l ++ r) = l ∧ tK (putList l ++ r) = (putList l).length := by
  obtain ⟨h1, h2, h3⟩ := get_put (putL l ++ r) (n := l.length) (by omega)
  obtain ⟨k1, k2, k3⟩ := list_back l r h
  have e : putList l ++ r = put l.length ++ (putL l ++ r) := by simp [putList]
  have hd : (put l.length ++ (putL l ++ r)).drop (put l.length).length = putL l ++ r := List.drop_left
  rw [e]
  have h0 : tE (put l.length ++ (putL l ++ r)) = 0 := by rw [tE_ls h1 (by omega), h2, h3, hd, k1]
  refine ⟨h0, ?_, ?_⟩
  · rw [(tL_ok h0).1, h2, h3, hd, k2]
  · rw [(tL_ok h0).2, h2, h3, hd, k3, putList, List.length_append]
theorem ls_form : ∀ (k : Nat) (l : List UInt8), lsE k l = 0 → putL (lsN k l) = l.take (lsK k l)
  | 0, _, _ => by simp [lsN, lsK, putL]
  | k + 1, l, h => by
    rw [lsE] at h
    split at h
    · rename_i hg
      have ih := ls_form k _ h
      rw [lsN, putL, ih, putI, Int.toNat_natCast, put_get hg, lsK, List.take_add]
    · exact absurd h ‹_›
theorem list_form {l : List UInt8} (h : tE l = 0) : putList (tL l) = l.take (tK l) ∧ 1 ≤ tK l := by
  obtain ⟨h1, h2, h3⟩ := tE_zero h
  have := gK_pos h1
  rw [(tL_ok h).1, (tL_ok h).2, putList, lsN_len, put_get h1, ls_form _ _ h3, List.take_add]
  exact ⟨rfl, by omega⟩

/-! ### Frames -/
def frame (b : List UInt8) : List UInt8 := putText b ++ be4 (crc b)
theorem frame_len (b : List UInt8) : (frame b).length = (put b.length).length + b.length + 4 := by rw [frame, List.length_append, putText_len, be4_len]
def sumAt (l : List UInt8) : List UInt8 := (l.drop (gK l + gN l)).take 4
def uE (l : List UInt8) : Nat := if bE 65536 l ≠ 0 then bE 65536 l else if l.length < gK l + gN l + 4 then 5 else if sumAt l = be4 (crc (bodyOf l)) then 0 else 6
def uB (l : List UInt8) : List UInt8 := if uE l = 0 then bodyOf l else []
def uK (l : List UInt8) : Nat := if uE l = 0 then gK l + gN l + 4 else 0
theorem uE_bad {l : List UInt8} (h : bE 65536 l ≠ 0) : uE l = bE 65536 l := by unfold uE; rw [if_pos h]
theorem uE_short {l : List UInt8} (h : bE 65536 l = 0) (h2 : l.length < gK l + gN l + 4) : uE l = 5 := by unfold uE; rw [if_neg (by omega), if_pos h2]
theorem uE_sum {l : List UInt8} (h : bE 65536 l = 0) (h2 : gK l + gN l + 4 ≤ l.length) (h3 : sumAt l ≠ be4 (crc (bodyOf l))) : uE l = 6 := by unfold uE; rw [if_neg (by omega), if_neg (by omega), if_neg h3]
theorem uE_ok {l : List UInt8} (h : bE 65536 l = 0) (h2 : gK l + gN l + 4 ≤ l.length) (h3 : sumAt l = be4 (crc (bodyOf l))) : uE l = 0 := by unfold uE; rw [if_neg (by omega), if_neg (by omega), if_pos h3]
theorem uE_zero {l : List UInt8} (h : uE l = 0) : bE 65536 l = 0 ∧ gK l + gN l + 4 ≤ l.length ∧ sumAt l = be4 (crc (bodyOf l)) := by
  unfold uE at h
  split at h
  · exact absurd h ‹_›
  · split at h
    · omega
    · split at h
      · exact ⟨by omega, by omega, ‹_›⟩
      · omega
theorem uB_bad {l : List UInt8} (h : uE l ≠ 0) : uB l = [] ∧ uK l = 0 := by unfold uB uK; rw [if_neg h, if_neg h]; exact ⟨rfl, rfl⟩
theorem uB_ok {l : List UInt8} (h : uE l = 0) : uB l = bodyOf l ∧ uK l = gK l + gN l + 4 := by unfold uB uK; rw [if_pos h, if_pos h]; exact ⟨rfl, rfl⟩
theorem uB_len (l : List UInt8) : (uB l).length ≤ l.length ∧ uK l ≤ l.length := by
  by_cases h : uE l = 0
  · obtain ⟨h1, h2, h3⟩ := uE_zero h
    rw [(uB_ok h).1, (uB_ok h).2, body_len (by omega)]
    omega
  · rw [(uB_bad h).1, (uB_bad h).2]
    simp
/-- What the reference compares. -/
theorem sum_same {l : List UInt8} (h : gE l = 0) (h2 : gK l + gN l + 4 ≤ l.length) : frame (bodyOf l) = l.take (gK l + gN l + 4) ↔ sumAt l = be4 (crc (bodyOf l)) := by
  have e : l.take (gK l + gN l + 4) = l.take (gK l + gN l) ++ sumAt l := by
    rw [List.take_add]
    rfl
  rw [frame, body_split h (by omega), e]
  constructor
  · intro he
    exact (List.append_cancel_left he).symm
  · intro he
    rw [← he]
/-- Any body and any four bytes behind it. -/
theorem frame_parts {b s : List UInt8} (hb : b.length ≤ 65536) (hs : s.length = 4) (r : List UInt8) :
    bE 65536 (putText b ++ s ++ r) = 0 ∧ gK (putText b ++ s ++ r) + gN (putText b ++ s ++ r) + 4 ≤ (putText b ++ s ++ r).length ∧ bodyOf (putText b ++ s ++ r) = b ∧ sumAt (putText b ++ s ++ r) = s ∧ gK (putText b ++ s ++ r) + gN (putText b ++ s ++ r) = (putText b).length := by
  obtain ⟨h1, h2, h3⟩ := text_back (lim := 65536) hb (by omega) (s ++ r)
  rw [← List.append_assoc] at h1 h2 h3
  have h4 := (bB_ok h1).1.symm.trans h2
  have h5 := (bB_ok h1).2.symm.trans h3
  refine ⟨h1, ?_, h4, ?_, h5⟩
  · rw [h5, List.length_append, List.length_append, hs]
    omega
  · rw [sumAt, h5, List.append_assoc, List.drop_left, ← hs, List.take_left]
theorem frame_back {b : List UInt8} (hb : b.length ≤ 65536) (r : List UInt8) : uE (frame b ++ r) = 0 ∧ uB (frame b ++ r) = b ∧ uK (frame b ++ r) = (frame b).length := by
  obtain ⟨h1, h2, h3, h4, h5⟩ := frame_parts hb (be4_len (crc b)) r
  have h0 : uE (frame b ++ r) = 0 := uE_ok h1 h2 (h4.trans (congrArg (fun m => be4 (crc m)) h3).symm)
  refine ⟨h0, ?_, ?_⟩
  · rw [(uB_ok h0).1]
    exact h3
  · rw [(uB_ok h0).2, frame_len, ← putText_len]
    show gK (putText b ++ be4 (crc b) ++ r) + gN (putText b ++ be4 (crc b) ++ r) + 4 = _
    rw [h5]
theorem frame_form {l : List UInt8} (h : uE l = 0) : frame (uB l) = l.take (uK l) ∧ 5 ≤ uK l := by
  obtain ⟨h1, h2, h3⟩ := uE_zero h
  obtain ⟨h4, _, _⟩ := bE_zero h1
  have := gK_pos h4
  rw [(uB_ok h).1, (uB_ok h).2]
  exact ⟨(sum_same h4 h2).2 h3, by omega⟩
theorem set_split {l : List UInt8} {i : Nat} (h : i < l.length) (x : UInt8) : ∃ m1 m2, l = m1 ++ l[i] :: m2 ∧ l.set i x = m1 ++ x :: m2 := by
  refine ⟨l.take i, l.drop (i + 1), ?_, ?_⟩
  · rw [← List.drop_eq_getElem_cons h, List.take_append_drop]
  · rw [List.set_eq_take_append_cons_drop, if_pos h]
/-- One changed byte in the body or the checksum is found. -/
theorem frame_changed {b : List UInt8} (hb : b.length ≤ 65536) {i : Nat} (h1 : (put b.length).length ≤ i) (h2 : i < (frame b).length) {x : UInt8} (hx : x ≠ (frame b)[i]) (r : List UInt8) : uE ((frame b).set i x ++ r) = 6 := by
  have hl := frame_len b
  obtain ⟨p, hp⟩ : ∃ p, put b.length = p := ⟨_, rfl⟩
  by_cases h3 : i < (putText b).length
  · rw [putText_len] at h3
    have e1 : (frame b).set i x = putText (b.set (i - (put b.length).length) x) ++ be4 (crc b) := by
      have hi : i < (putText b).length := by rw [putText_len]; omega
      rw [frame, List.set_append_left _ _ hi]
      unfold putText
      rw [List.set_append_right _ _ h1, List.length_set]
    have hj : i - (put b.length).length < b.length := by omega
    have e2 : (frame b)[i] = b[i - (put b.length).length] := by
      simp only [frame, putText]
      rw [List.getElem_append_left (by rw [List.length_append]; omega), List.getElem_append_right h1]
    rw [e2] at hx
    obtain ⟨m1, m2, s1, s2⟩ := set_split hj x
    have hc : crc b ≠ crc (b.set (i - (put b.length).length) x) := by
      rw [s2]
      intro he
      rw [s1] at he
      exact crc_changed m1 m2 (fun h => hx h.symm) he
    rw [e1]
    obtain ⟨k1, k2, k3, k4, k5⟩ := frame_parts (b := b.set (i - (put b.length).length) x) (by rw [List.length_set]; exact hb) (be4_len (crc b)) r
    exact uE_sum k1 k2 (fun he => by rw [k3, k4] at he; exact hc (be4_inj (crc_lt _) (crc_lt _) he))
  · have e1 : (frame b).set i x = putText b ++ (be4 (crc b)).set (i - (putText b).length) x := by
      rw [frame, List.set_append_right _ _ (by omega)]
    have hj : i - (putText b).length < (be4 (crc b)).length := by rw [be4_len]; rw [putText_len]; omega
    have e2 : (frame b)[i] = (be4 (crc b))[i - (putText b).length] := by
      simp only [frame]
      rw [List.getElem_append_right (by omega)]
    rw [e2] at hx
    rw [e1]
    obtain ⟨k1, k2, k3, k4, k5⟩ := frame_parts (b := b) hb (s := (be4 (crc b)).set (i - (putText b).length) x) (by rw [List.length_set, be4_len]) r
    refine uE_sum k1 k2 (fun he => ?_)
    rw [k3, k4] at he
    have := congrArg (fun m : List UInt8 => m[i - (putText b).length]?) he
    simp only [List.getElem?_set_self hj, List.getElem?_eq_getElem hj, Option.some.injEq] at this
    exact hx this
end Go.Proofs.YtlgjddmghmgmmaaDoor
