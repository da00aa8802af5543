/- What the walk of the reference's Parse is told of a text. -/
import Derived.Test.YtleddfceigmlmaaDoorParsePlain
namespace Go.Proofs.YtleddfceigmlmaaDoor
open Go.RowKit Go.Shelf Go.Sort

theorem head_ba {T : ByteArray} (h : 0 < T.size) : T.data.toList.headD 0 = T[0] := by
  obtain ⟨⟨l⟩⟩ := T
  cases l with
  | nil => exact absurd h (by decide)
  | cons c l => rfl
theorem byte_is {c d : UInt8} {n : Nat} (hd : d.toNat = n) (h : (c.toNat : Int) = n) : c = d := UInt8.toNat_inj.1 (by omega)
theorem byte_not {c d : UInt8} {n : Nat} (hd : d.toNat = n) (h : (c.toNat : Int) ≠ n) : c ≠ d := fun e => h (by rw [e, hd])
theorem finV_int {neg : Bool} {n : Nat} {m : Int} (h : (n : Int) = m) : finV neg n = if neg then (if m = 0 then pairV 0 3 else pairV (-m) 0) else pairV m 0 := by
  subst h
  unfold finV
  by_cases h0 : n = 0
  · rw [if_pos h0, if_pos (show (n : Int) = 0 by omega)]
  · rw [if_neg h0, if_neg (show ¬ (n : Int) = 0 by omega)]
theorem tail_drop (l : List UInt8) : l.tail = l.drop 1 := by cases l <;> rfl
theorem valN_three {l : List UInt8} (h : l.all isD = true) (hl : l.length ≤ 3) : valN l ≤ 999 := by
  have h1 := fold_lt (acc := 0) h
  have h2 : 10 ^ l.length ≤ 10 ^ 3 := Nat.pow_le_pow_right (by omega) hl
  unfold valN
  rw [Nat.zero_add, Nat.one_mul] at h1
  have h3 : (10 : Nat) ^ 3 = 1000 := by decide
  omega
/-- What the walk is told of the text T behind the sign. -/
structure Parts (neg : Bool) (T : ByteArray) (K : Nat) (W : ByteArray) (V : Int) (R : ByteArray) : Prop where
  small : T.size ≤ 60
  kdef : digN T.data.toList = K
  kle : K ≤ T.size
  wdef : T.extract 0 K = W
  rdef : T.extract K T.size = R
  rsize : R.size = T.size - K
  vdef : (valN W.data.toList : Int) = V
  wdig : W.data.toList.all isD = true
  wsize : W.size = K
theorem parts (neg : Bool) (T : ByteArray) (h : T.size ≤ 60) : ∃ K W V R, Parts neg T K W V R := by
  have hl : T.data.toList.length = T.size := by simp
  have hk := digN_le T.data.toList
  refine ⟨digN T.data.toList, _, _, _, h, rfl, by omega, rfl, rfl, ?_, rfl, ?_, ?_⟩
  · rw [ByteArray.size_extract]; omega
  · rw [Lib.extract_data]
    have := (digN_split T.data.toList).1
    rw [List.drop_zero, Nat.sub_zero]
    exact this
  · rw [ByteArray.size_extract]; omega
theorem Parts.take {neg : Bool} {T W R : ByteArray} {K : Nat} {V : Int} (p : Parts neg T K W V R) : W.data.toList = T.data.toList.take K := by
  rw [← p.wdef, Lib.extract_data, List.drop_zero, Nat.sub_zero]
theorem Parts.drop {neg : Bool} {T W R : ByteArray} {K : Nat} {V : Int} (p : Parts neg T K W V R) : R.data.toList = T.data.toList.drop K := by
  have hl : T.data.toList.length = T.size := by simp
  rw [← p.rdef, Lib.extract_data, List.take_of_length_le (by rw [List.length_drop]; omega)]
theorem Parts.bound {neg : Bool} {T W R : ByteArray} {K : Nat} {V : Int} (p : Parts neg T K W V R) (h : K ≤ 10) : 0 ≤ V ∧ V ≤ 9999999999 := by
  have hl : W.data.toList.length = W.size := by simp
  have := valN_pow p.wdig (by rw [hl, p.wsize]; exact h)
  have := p.vdef
  omega
theorem Parts.bad {neg : Bool} {T W R : ByteArray} {K : Nat} {V : Int} (p : Parts neg T K W V R) (h : K < 1 ∨ 10 < K) : refL neg T.data.toList = pairV 0 3 := by
  unfold refL
  rw [p.kdef, if_pos]
  rcases h with h | h
  · exact Or.inl h
  · exact Or.inr (Or.inl h)
theorem Parts.zero {neg : Bool} {T W R : ByteArray} {K : Nat} {V : Int} (p : Parts neg T K W V R) (h : 1 < K) (hT : 0 < T.size) (h0 : (T[0].toNat : Int) = 48) : refL neg T.data.toList = pairV 0 3 := by
  unfold refL
  rw [p.kdef, if_pos]
  exact Or.inr (Or.inr ⟨h, by rw [head_ba hT]; exact byte_is (n := 48) rfl h0⟩)
theorem Parts.good {neg : Bool} {T W R : ByteArray} {K : Nat} {V : Int} (p : Parts neg T K W V R) (hT : 0 < T.size) (h1 : 1 ≤ K) (h10 : K ≤ 10) (h0 : K = 1 ∨ (1 < K ∧ (T[0].toNat : Int) ≠ 48)) :
    refL neg T.data.toList = if R.data.toList = [] then finV neg (1000 * valN W.data.toList)
      else if R.data.toList.headD 0 ≠ 46 ∨ R.data.toList.length < 2 ∨ 4 < R.data.toList.length ∨ digN R.data.toList.tail ≠ R.data.toList.length - 1 then pairV 0 3
      else finV neg (1000 * valN W.data.toList + valN ((R.data.toList.tail ++ [48, 48]).take 3)) := by
  unfold refL
  rw [p.kdef, if_neg, p.take, p.drop]
  rintro (h | h | ⟨h, e⟩)
  · omega
  · omega
  · rcases h0 with h0 | ⟨_, h0⟩
    · omega
    · rw [head_ba hT] at e
      exact byte_not (n := 48) rfl h0 e
theorem Parts.whole {neg : Bool} {T W R : ByteArray} {K : Nat} {V : Int} (p : Parts neg T K W V R) (hT : 0 < T.size) (h1 : 1 ≤ K) (h10 : K ≤ 10) (h0 : K = 1 ∨ (1 < K ∧ (T[0].toNat : Int) ≠ 48)) (hR : R.size = 0) :
    refL neg T.data.toList = if neg then (if 1000 * V = 0 then pairV 0 3 else pairV (-(1000 * V)) 0) else pairV (1000 * V) 0 := by
  have hl : R.data.toList.length = R.size := by simp
  rw [p.good hT h1 h10 h0, if_pos (List.length_eq_zero_iff.1 (by omega))]
  exact finV_int (by rw [Int.natCast_mul, p.vdef]; rfl)
theorem Parts.nopoint {neg : Bool} {T W R : ByteArray} {K : Nat} {V : Int} (p : Parts neg T K W V R) (hT : 0 < T.size) (h1 : 1 ≤ K) (h10 : K ≤ 10) (h0 : K = 1 ∨ (1 < K ∧ (T[0].toNat : Int) ≠ 48)) (hR : 0 < R.size)
    (hb : (R[0].toNat : Int) ≠ 46 ∨ R.size < 2 ∨ 4 < R.size ∨ digN (R.extract 1 R.size).data.toList ≠ R.size - 1) :
    refL neg T.data.toList = pairV 0 3 := by
  have hl : R.data.toList.length = R.size := by simp
  rw [p.good hT h1 h10 h0, if_neg (fun e => by rw [e] at hl; simp at hl; omega), if_pos]
  rw [hl]
  rcases hb with h | h | h | h
  · exact Or.inl (by rw [head_ba hR]; exact byte_not (n := 46) rfl h)
  · exact Or.inr (Or.inl h)
  · exact Or.inr (Or.inr (Or.inl h))
  · refine Or.inr (Or.inr (Or.inr ?_))
    rw [Lib.extract_data, List.take_of_length_le (by rw [List.length_drop]; omega)] at h
    rw [tail_drop]
    exact h
theorem Parts.point {neg : Bool} {T W R : ByteArray} {K : Nat} {V : Int} (p : Parts neg T K W V R) (hT : 0 < T.size) (h1 : 1 ≤ K) (h10 : K ≤ 10) (h0 : K = 1 ∨ (1 < K ∧ (T[0].toNat : Int) ≠ 48)) (hR : 0 < R.size)
    (hb : (R[0].toNat : Int) = 46) (h2 : 2 ≤ R.size) (h4 : R.size ≤ 4) (hd : digN (R.extract 1 R.size).data.toList = R.size - 1) {F : Int}
    (hF : (valN ((R.extract 1 R.size ++ ⟨#[48, 48]⟩).extract 0 3).data.toList : Int) = F) :
    refL neg T.data.toList = if neg then (if 1000 * V + F = 0 then pairV 0 3 else pairV (-(1000 * V + F)) 0) else pairV (1000 * V + F) 0 := by
  have hl : R.data.toList.length = R.size := by simp
  have ht : (R.extract 1 R.size).data.toList = R.data.toList.tail := by
    rw [Lib.extract_data, List.take_of_length_le (by rw [List.length_drop]; omega), tail_drop]
  rw [p.good hT h1 h10 h0, if_neg (fun e => by rw [e] at hl; simp at hl; omega), if_neg]
  · refine finV_int ?_
    rw [Int.natCast_add, Int.natCast_mul, p.vdef, ← hF, Lib.extract_data, cat_list, ht]
    rfl
  · rw [hl, ← ht]
    rintro (h | h | h | h)
    · exact h (by rw [head_ba hR]; exact byte_is (n := 46) rfl hb)
    · omega
    · omega
    · exact h hd
theorem frac_ok {R : ByteArray} (h2 : 2 ≤ R.size) (h4 : R.size ≤ 4) (hd : digN (R.extract 1 R.size).data.toList = R.size - 1) :
    ((R.extract 1 R.size ++ ⟨#[48, 48]⟩).extract 0 3).size = 3 ∧ ((R.extract 1 R.size ++ ⟨#[48, 48]⟩).extract 0 3).data.toList.all isD = true := by
  have hq : (R.extract 1 R.size).size = R.size - 1 := by rw [ByteArray.size_extract]; omega
  have hl : (R.extract 1 R.size).data.toList.length = (R.extract 1 R.size).size := by simp
  have hall := digN_all.1 (show digN (R.extract 1 R.size).data.toList = (R.extract 1 R.size).data.toList.length by omega)
  have e2 : (⟨#[48, 48]⟩ : ByteArray).size = 2 := rfl
  refine ⟨by rw [ByteArray.size_extract, ByteArray.size_append, e2]; omega, ?_⟩
  rw [Lib.extract_data, cat_list, List.all_eq_true]
  intro c hc
  have hc := List.mem_of_mem_drop (List.mem_of_mem_take hc)
  rcases List.mem_append.1 hc with h | h
  · exact (List.all_eq_true.1 hall) c h
  · have : ∀ c ∈ [(48 : UInt8), 48], isD c = true := by decide
    exact this c h
end Go.Proofs.YtleddfceigmlmaaDoor
