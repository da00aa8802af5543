/- The reference's Parse on a text whose whole part is right. -/
import Derived.Test.YtleddfceigmlmaaDoorRefParts
namespace Go.Proofs.YtleddfceigmlmaaDoor
open Go.RowKit Go.Shelf Go.Sort

set_option maxRecDepth 100000 in
set_option maxHeartbeats 40000000 in
theorem refParse_negOne (s T W R : ByteArray) (V : Int) (w : World) (hs0 : 0 < s.size) (hs : (s[0].toNat : Int) = 45) (hX : s.extract 1 s.size = T) (hT : 0 < T.size) (p : Parts true T (1 : Nat) W V R) :
    Calls Tryd.prog 26 #[.string s] w fun e w' => e = .returned (refL true T.data.toList) ∧ w = w' := by
  have hT60 := p.small
  have q1 := p.kle
  have q2 := p.wdef
  have q3 := p.rdef
  have q4 : R.size ≤ 60 := by have := p.rsize; omega
  have kd : ∀ w, Calls Tryd.prog 47 #[.string T] w fun e w' => e = .returned (.int .i64 (1 : Nat)) ∧ w = w' := fun w => by
    have := digits_any T w (by omega)
    rwa [p.kdef] at this
  have kd := Lib.hid kd
  have g2 : (1 : Nat) ≤ 10 := by omega
  have g1 : (1 : Nat) ≤ 1 := Nat.le_refl _
  have g0 := Lib.hid (show (1 : Nat) = 1 ∨ (1 < 1 ∧ (T[0].toNat : Int) ≠ 48) from Or.inl rfl)
  have kv : ∀ w, Calls Tryd.prog 48 #[.string W] w fun e w' => e = .returned (.int .i64 V) ∧ w = w' := fun w => by
    have := value_any W w (by rw [p.wsize]; exact g2) p.wdig
    rwa [p.vdef] at this
  have kv := Lib.hid kv
  obtain ⟨v0, v1⟩ := p.bound g2
  by_cases hR0 : R.size = 0
  · by_cases hz : 1000 * V = 0
    · have hf := Lib.hid ((p.whole hT g1 g2 g0.out hR0).trans ((if_pos rfl).trans (if_pos hz)))
      clear p
      go_enter Tryd.func26, Tryd.ntmps26
      go_wp2_with (first
        | (go_at_call_of 47 T; refine (kd.out _).mono ?_; rintro e w' ⟨rfl, rfl⟩)
        | (go_at_call_of 47 Q; refine (kq.out _).mono ?_; rintro e w' ⟨rfl, rfl⟩)
        | (go_at_call_of 48 W; refine (kv.out _).mono ?_; rintro e w' ⟨rfl, rfl⟩)
        | (go_at_call_of 48 Y; refine (kf.out _).mono ?_; rintro e w' ⟨rfl, rfl⟩))
      go_ret2
      exact ⟨by rw [hf.out]; rfl, rfl⟩
    · have hf := Lib.hid ((p.whole hT g1 g2 g0.out hR0).trans ((if_pos rfl).trans (if_neg hz)))
      clear p
      go_enter Tryd.func26, Tryd.ntmps26
      go_wp2_with (first
        | (go_at_call_of 47 T; refine (kd.out _).mono ?_; rintro e w' ⟨rfl, rfl⟩)
        | (go_at_call_of 47 Q; refine (kq.out _).mono ?_; rintro e w' ⟨rfl, rfl⟩)
        | (go_at_call_of 48 W; refine (kv.out _).mono ?_; rintro e w' ⟨rfl, rfl⟩)
        | (go_at_call_of 48 Y; refine (kf.out _).mono ?_; rintro e w' ⟨rfl, rfl⟩))
      go_ret2
      exact ⟨by rw [hf.out]; rfl, rfl⟩
  · have hRp : 0 < R.size := by omega
    by_cases b0 : (R[0].toNat : Int) = 46
    · by_cases b1 : 2 ≤ R.size
      · by_cases b2 : R.size ≤ 4
        · obtain ⟨Q, hQ⟩ : ∃ Q, R.extract 1 R.size = Q := ⟨_, rfl⟩
          obtain ⟨J, hJ⟩ : ∃ J, digN Q.data.toList = J := ⟨_, rfl⟩
          have kq : ∀ w, Calls Tryd.prog 47 #[.string Q] w fun e w' => e = .returned (.int .i64 J) ∧ w = w' := fun w => by
            have := digits_any Q w (by rw [← hQ, ByteArray.size_extract]; omega)
            rwa [hJ] at this
          have kq := Lib.hid kq
          by_cases b3 : digN (R.extract 1 R.size).data.toList = R.size - 1
          · obtain ⟨f1, f2⟩ := frac_ok b1 b2 b3
            obtain ⟨F, hF⟩ : ∃ F : Int, (valN ((R.extract 1 R.size ++ ⟨#[48, 48]⟩).extract 0 3).data.toList : Int) = F := ⟨_, rfl⟩
            have hF3 := valN_three f2 (by rw [show _ = _ from Array.length_toList]; exact Nat.le_of_eq f1)
            have F0 : 0 ≤ F := by omega
            have F1 : F ≤ 999 := by omega
            obtain ⟨Y, hY⟩ : ∃ Y, (R.extract 1 R.size ++ ⟨#[48, 48]⟩).extract 0 3 = Y := ⟨_, rfl⟩
            have hF' := hF
            rw [hY] at f1 f2 hF'
            have kf : ∀ w, Calls Tryd.prog 48 #[.string Y] w fun e w' => e = .returned (.int .i64 F) ∧ w = w' := fun w => by
              have := value_any Y w (by omega) f2
              rwa [hF'] at this
            have kf := Lib.hid kf
            have hJ' : ((J : Int) != (R.size : Int) - 1) = false := bne_eq_false_iff_eq.2 (by rw [hQ, hJ] at b3; omega)
            have hs2 : 1 ≤ Q.size ∧ Q.size ≤ 60 := by rw [← hQ, ByteArray.size_extract]; omega
            obtain ⟨hs2, hs3⟩ := hs2
            rw [hQ] at hY
            clear f1 f2 hF' hF3
            by_cases hz : 1000 * V + F = 0
            · have hf := Lib.hid ((p.point hT g1 g2 g0.out hRp b0 b1 b2 b3 hF).trans ((if_pos rfl).trans (if_pos hz)))
              clear p b3 hF
              go_enter Tryd.func26, Tryd.ntmps26
              go_wp2_with (first
                | (go_at_call_of 47 T; refine (kd.out _).mono ?_; rintro e w' ⟨rfl, rfl⟩)
                | (go_at_call_of 47 Q; refine (kq.out _).mono ?_; rintro e w' ⟨rfl, rfl⟩)
                | (go_at_call_of 48 W; refine (kv.out _).mono ?_; rintro e w' ⟨rfl, rfl⟩)
                | (go_at_call_of 48 Y; refine (kf.out _).mono ?_; rintro e w' ⟨rfl, rfl⟩))
              go_ret2
              exact ⟨by rw [hf.out]; rfl, rfl⟩
            · have hf := Lib.hid ((p.point hT g1 g2 g0.out hRp b0 b1 b2 b3 hF).trans ((if_pos rfl).trans (if_neg hz)))
              clear p b3 hF
              go_enter Tryd.func26, Tryd.ntmps26
              go_wp2_with (first
                | (go_at_call_of 47 T; refine (kd.out _).mono ?_; rintro e w' ⟨rfl, rfl⟩)
                | (go_at_call_of 47 Q; refine (kq.out _).mono ?_; rintro e w' ⟨rfl, rfl⟩)
                | (go_at_call_of 48 W; refine (kv.out _).mono ?_; rintro e w' ⟨rfl, rfl⟩)
                | (go_at_call_of 48 Y; refine (kf.out _).mono ?_; rintro e w' ⟨rfl, rfl⟩))
              go_ret2
              exact ⟨by rw [hf.out]; rfl, rfl⟩
          · have hf := Lib.hid (p.nopoint hT g1 g2 g0.out hRp (Or.inr (Or.inr (Or.inr b3))))
            have hJ' : ((J : Int) != (R.size : Int) - 1) = true := bne_iff_ne.2 (by rw [hQ, hJ] at b3; omega)
            clear p b3
            go_enter Tryd.func26, Tryd.ntmps26
            go_wp2_with (first
              | (go_at_call_of 47 T; refine (kd.out _).mono ?_; rintro e w' ⟨rfl, rfl⟩)
              | (go_at_call_of 47 Q; refine (kq.out _).mono ?_; rintro e w' ⟨rfl, rfl⟩)
              | (go_at_call_of 48 W; refine (kv.out _).mono ?_; rintro e w' ⟨rfl, rfl⟩)
              | (go_at_call_of 48 Y; refine (kf.out _).mono ?_; rintro e w' ⟨rfl, rfl⟩))
            go_ret2
            exact ⟨by rw [hf.out]; rfl, rfl⟩
        · have hf := Lib.hid (p.nopoint hT g1 g2 g0.out hRp (Or.inr (Or.inr (Or.inl (by omega)))))
          clear p
          go_enter Tryd.func26, Tryd.ntmps26
          go_wp2_with (first
            | (go_at_call_of 47 T; refine (kd.out _).mono ?_; rintro e w' ⟨rfl, rfl⟩)
            | (go_at_call_of 47 Q; refine (kq.out _).mono ?_; rintro e w' ⟨rfl, rfl⟩)
            | (go_at_call_of 48 W; refine (kv.out _).mono ?_; rintro e w' ⟨rfl, rfl⟩)
            | (go_at_call_of 48 Y; refine (kf.out _).mono ?_; rintro e w' ⟨rfl, rfl⟩))
          go_ret2
          exact ⟨by rw [hf.out]; rfl, rfl⟩
      · have hf := Lib.hid (p.nopoint hT g1 g2 g0.out hRp (Or.inr (Or.inl (by omega))))
        clear p
        go_enter Tryd.func26, Tryd.ntmps26
        go_wp2_with (first
          | (go_at_call_of 47 T; refine (kd.out _).mono ?_; rintro e w' ⟨rfl, rfl⟩)
          | (go_at_call_of 47 Q; refine (kq.out _).mono ?_; rintro e w' ⟨rfl, rfl⟩)
          | (go_at_call_of 48 W; refine (kv.out _).mono ?_; rintro e w' ⟨rfl, rfl⟩)
          | (go_at_call_of 48 Y; refine (kf.out _).mono ?_; rintro e w' ⟨rfl, rfl⟩))
        go_ret2
        exact ⟨by rw [hf.out]; rfl, rfl⟩
    · have hf := Lib.hid (p.nopoint hT g1 g2 g0.out hRp (Or.inl b0))
      clear p
      go_enter Tryd.func26, Tryd.ntmps26
      go_wp2_with (first
        | (go_at_call_of 47 T; refine (kd.out _).mono ?_; rintro e w' ⟨rfl, rfl⟩)
        | (go_at_call_of 47 Q; refine (kq.out _).mono ?_; rintro e w' ⟨rfl, rfl⟩)
        | (go_at_call_of 48 W; refine (kv.out _).mono ?_; rintro e w' ⟨rfl, rfl⟩)
        | (go_at_call_of 48 Y; refine (kf.out _).mono ?_; rintro e w' ⟨rfl, rfl⟩))
      go_ret2
      exact ⟨by rw [hf.out]; rfl, rfl⟩
end Go.Proofs.YtleddfceigmlmaaDoor
