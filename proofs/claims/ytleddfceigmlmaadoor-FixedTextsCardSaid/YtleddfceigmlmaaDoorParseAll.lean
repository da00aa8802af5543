/- fixed.Parse returns 'parseV', for every string shorter than 2^32 - 15. -/
import Derived.Test.YtleddfceigmlmaaDoorParse
namespace Go.Proofs.YtleddfceigmlmaaDoor
open Go.RowKit Go.Shelf Go.Sort

theorem decFrom_val {l : List UInt8} : ∀ {acc : Nat}, l.all isD = true → Lib.decFrom acc l = some (l.foldl (fun a c => 10 * a + (c.toNat - 48)) acc) := by
  induction l with
  | nil => intro acc _; rfl
  | cons c l ih =>
    intro acc h
    rw [List.all_cons, Bool.and_eq_true] at h
    have hc := of_decide_eq_true h.1
    unfold Lib.decFrom Lib.digitVal
    rw [if_pos hc, List.foldl_cons, Nat.mul_comm acc 10]
    exact ih h.2
theorem atoi_val {l : List UInt8} (h0 : l ≠ []) (h : l.all isD = true) : Lib.atoi l = some (valN l : Int) := by
  cases l with
  | nil => exact absurd rfl h0
  | cons c l =>
    have hc := h
    rw [List.all_cons, Bool.and_eq_true] at hc
    have hc := of_decide_eq_true hc.1
    have n1 : (c == 45) = false := by
      rw [beq_eq_false_iff_ne]; rintro rfl; exact absurd hc.1 (by decide)
    have n2 : (c == 43) = false := by
      rw [beq_eq_false_iff_ne]; rintro rfl; exact absurd hc.1 (by decide)
    unfold Lib.atoi
    simp only [n1, n2]
    unfold Lib.decNat
    rw [List.isEmpty_cons]
    have := decFrom_val (acc := 0) h
    simp only [this]
    rfl
theorem fold_lt {l : List UInt8} : ∀ {acc : Nat}, l.all isD = true → l.foldl (fun a c => 10 * a + (c.toNat - 48)) acc + 1 ≤ (acc + 1) * 10 ^ l.length := by
  induction l with
  | nil => intro acc _; simp
  | cons c l ih =>
    intro acc h
    rw [List.all_cons, Bool.and_eq_true] at h
    have hc := of_decide_eq_true h.1
    rw [List.foldl_cons, List.length_cons, Nat.pow_succ, Nat.mul_comm (10 ^ l.length) 10, ← Nat.mul_assoc]
    refine Nat.le_trans (ih h.2) (Nat.mul_le_mul_right _ ?_)
    omega
theorem valN_lt {l : List UInt8} (h : l.all isD = true) (hl : l.length ≤ 13) : valN l ≤ 9999999999999 := by
  have h1 := fold_lt (acc := 0) h
  have h2 : 10 ^ l.length ≤ 10 ^ 13 := Nat.pow_le_pow_right (by omega) hl
  unfold valN
  rw [Nat.zero_add, Nat.one_mul] at h1
  have h3 : (10 : Nat) ^ 13 = 10000000000000 := by decide
  omega

/-- What Parse answers for a string of the bytes l. -/
def parseV (l : List UInt8) : Value :=
  if wholeOk (Lib.cut (Lib.trimPrefix l [45]) [46]).1 && (!(Lib.cut (Lib.trimPrefix l [45]) [46]).2.2 || areD (Lib.cut (Lib.trimPrefix l [45]) [46]).2.1 3) then
    (if Lib.hasPrefix l [45] then
      (if valN ((Lib.cut (Lib.trimPrefix l [45]) [46]).1 ++ ((Lib.cut (Lib.trimPrefix l [45]) [46]).2.1 ++ [48, 48, 48]).take 3) = 0 then pairV 0 3
       else pairV (-(valN ((Lib.cut (Lib.trimPrefix l [45]) [46]).1 ++ ((Lib.cut (Lib.trimPrefix l [45]) [46]).2.1 ++ [48, 48, 48]).take 3) : Int)) 0)
     else pairV (valN ((Lib.cut (Lib.trimPrefix l [45]) [46]).1 ++ ((Lib.cut (Lib.trimPrefix l [45]) [46]).2.1 ++ [48, 48, 48]).take 3)) 0)
  else pairV 0 3
theorem parseV_pair (l : List UInt8) : ∃ v e, parseV l = pairV v e := by
  unfold parseV
  repeat (first | exact ⟨_, _, rfl⟩ | split)

theorem areD_parts {l : List UInt8} {m : Int} (h : areD l m = true) : 1 ≤ l.length ∧ (l.length : Int) ≤ m ∧ l.all isD = true := by
  unfold areD at h
  rw [Bool.and_eq_true] at h
  have := of_decide_eq_true h.1
  exact ⟨this.1, this.2, h.2⟩
theorem wholeOk_parts {l : List UInt8} (h : wholeOk l = true) : 1 ≤ l.length ∧ l.length ≤ 10 ∧ l.all isD = true := by
  unfold wholeOk at h
  rw [Bool.and_eq_true] at h
  obtain ⟨h1, h2, h3⟩ := areD_parts h.1
  exact ⟨h1, by omega, h3⟩
theorem cut_len (u : List UInt8) : (Lib.cut u [46]).1.length ≤ u.length ∧ (Lib.cut u [46]).2.1.length ≤ u.length ∧ ((Lib.cut u [46]).2.2 = false → (Lib.cut u [46]).2.1 = []) := by
  unfold Lib.cut
  split
  · exact ⟨by simp; omega, by simp, fun h => by cases h⟩
  · exact ⟨by simp, by simp, fun _ => rfl⟩
theorem trim_len (l p : List UInt8) : (Lib.trimPrefix l p).length ≤ l.length := by
  unfold Lib.trimPrefix
  split <;> simp

theorem parse_any (s : ByteArray) (w : World) (he : Env w) (hs : s.size < 4294967281) :
    Calls Tryd.prog 25 #[.string s] w fun e w' => e = .returned (parseV s.data.toList) ∧ Below w.heap.size w w' := by
  have hlen : s.data.toList.length = s.size := by simp
  have c1 := Tryd.strings_CutPrefix s ⟨#[45]⟩ w
  obtain ⟨m, hm⟩ := he.max
  have tl := trim_len s.data.toList [45]
  have c2 := Tryd.strings_Cut ⟨(Lib.trimPrefix s.data.toList [45]).toArray⟩ ⟨#[46]⟩ m w (by show (Lib.trimPrefix s.data.toList [45]).length < _; omega) hm
  unfold parseV
  have cl := cut_len (Lib.trimPrefix s.data.toList [45])
  have c1 : Hid (Calls Tryd.prog 42 #[.string s, .string ⟨#[45]⟩] w fun e w' => e = .returned (.tuple #[.string ⟨(Lib.trimPrefix s.data.toList [45]).toArray⟩, .bool (Lib.hasPrefix s.data.toList [45])]) ∧ w' = w) := c1
  generalize Lib.trimPrefix s.data.toList [45] = U at *
  generalize Lib.hasPrefix s.data.toList [45] = mi at *
  have c2 : Hid (Calls Tryd.prog 43 #[.string ⟨U.toArray⟩, .string ⟨#[46]⟩] w fun e w' => e = .returned (.tuple #[.string ⟨(Lib.cut U [46]).1.toArray⟩, .string ⟨(Lib.cut U [46]).2.1.toArray⟩, .bool (Lib.cut U [46]).2.2]) ∧ ∃ n, w' = w.drewN n) := c2
  generalize (Lib.cut U [46]).1 = Wh at *
  generalize (Lib.cut U [46]).2.1 = Fr at *
  generalize (Lib.cut U [46]).2.2 = pt at *
  rcases hw : wholeOk Wh with _ | _
  · exact parse_bad1 s U Wh Fr pt mi w c1 c2 hw (by omega)
  · obtain ⟨k1, k2, k3⟩ := wholeOk_parts hw
    by_cases hf : pt = true → areD Fr 3 = true
    · have e : (true && (!pt || areD Fr 3)) = true := by
        rcases pt with _ | _
        · rfl
        · rw [hf rfl]; rfl
      rw [e, if_pos rfl]
      have lF : Fr.length ≤ 3 ∧ Fr.all isD = true := by
        rcases pt with _ | _
        · rw [cl.2.2 rfl]; exact ⟨by simp, rfl⟩
        · obtain ⟨_, f2, f3⟩ := areD_parts (hf rfl)
          exact ⟨by omega, f3⟩
      have hD : (Wh ++ (Fr ++ [48, 48, 48]).take 3).all isD = true := by
        rw [List.all_append, k3, Bool.true_and]
        have : (Fr ++ [48, 48, 48]).all isD = true := by rw [List.all_append, lF.2]; decide
        rw [List.all_eq_true] at this ⊢
        exact fun x hx => this x (List.mem_of_mem_take hx)
      have hDl : (Wh ++ (Fr ++ [48, 48, 48]).take 3).length ≤ 13 := by
        rw [List.length_append, List.length_take]; omega
      have hD0 : (Wh ++ (Fr ++ [48, 48, 48]).take 3) ≠ [] := by
        intro h
        have := congrArg List.length h
        rw [List.length_append, List.length_nil] at this
        omega
      have hv := valN_lt hD hDl
      have ha := atoi_val hD0 hD
      have ES : ((⟨Wh.toArray⟩ : ByteArray) ++ ((⟨Fr.toArray⟩ : ByteArray) ++ ⟨#[48, 48, 48]⟩).extract 0 3) = ⟨(Wh ++ (Fr ++ [48, 48, 48]).take 3).toArray⟩ := by
        apply ba_eq
        rw [cat_list, Lib.extract_data, cat_list]
        rfl
      generalize Wh ++ (Fr ++ [48, 48, 48]).take 3 = D at *
      have c3 : Hid (∀ w, Calls Tryd.prog 46 #[.string ⟨D.toArray⟩] w fun e w' => e = .returned (.tuple #[.int .i64 (valN D : Int), .nilIface]) ∧ Below w.heap.size w w') := fun w =>
        (Tryd.strconv_Atoi ⟨D.toArray⟩ (valN D) (by show D.length ≤ 18; omega) ha w).mono fun e w' ⟨a, t, b⟩ => ⟨a, by rw [b]; exact Lib.bytesWorld_below _ _ _⟩
      rcases mi with _ | _
      · exact parse_pos s U Wh Fr pt false w c1 c2 D (valN D) c3 ES hw hf k2 lF.1 rfl (by omega) (by omega)
      · rw [if_pos rfl]
        by_cases h0 : valN D = 0
        · rw [if_pos h0]
          exact parse_zero s U Wh Fr pt true w c1 c2 D (valN D) c3 ES hw hf k2 lF.1 rfl (by omega)
        · rw [if_neg h0]
          exact parse_neg s U Wh Fr pt true w c1 c2 D (valN D) c3 ES hw hf k2 lF.1 rfl (by omega) (by omega)
    · obtain ⟨rfl, hF⟩ : pt = true ∧ areD Fr 3 = false := by
        rcases pt with _ | _
        · exact absurd (fun h => by cases h) hf
        · refine ⟨rfl, ?_⟩
          rcases h : areD Fr 3 with _ | _
          · rfl
          · exact absurd (fun _ => h) hf
      rw [hF]
      exact parse_bad2 s U Wh Fr true mi w c1 c2 hw rfl hF (by omega) (by omega)
end Go.Proofs.YtleddfceigmlmaaDoor
