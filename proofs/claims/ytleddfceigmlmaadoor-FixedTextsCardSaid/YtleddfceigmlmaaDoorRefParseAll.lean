/- The reference's Parse returns 'refL'. -/
import Derived.Test.YtleddfceigmlmaaDoorRefParseNegOne
import Derived.Test.YtleddfceigmlmaaDoorRefParseNegMore
import Derived.Test.YtleddfceigmlmaaDoorRefParsePosOne
import Derived.Test.YtleddfceigmlmaaDoorRefParsePosMore
namespace Go.Proofs.YtleddfceigmlmaaDoor
open Go.RowKit Go.Shelf Go.Sort

set_option maxRecDepth 100000 in
set_option maxHeartbeats 40000000 in
theorem refParse_neg (s T : ByteArray) (w : World) (h60 : s.size ≤ 60) (hs0 : 0 < s.size) (hs : (s[0].toNat : Int) = 45) (hX : s.extract 1 s.size = T) :
    Calls Tryd.prog 26 #[.string s] w fun e w' => e = .returned (refL true T.data.toList) ∧ w = w' := by
  have hT60 : T.size ≤ 60 := by rw [← hX, ByteArray.size_extract]; omega
  obtain ⟨K, W, V, R, p⟩ := parts true T hT60
  have q1 := p.kle
  have q2 := p.wdef
  have q3 := p.rdef
  have q4 : R.size ≤ 60 := by have := p.rsize; omega
  have kd : ∀ w, Calls Tryd.prog 47 #[.string T] w fun e w' => e = .returned (.int .i64 K) ∧ w = w' := fun w => by
    have := digits_any T w (by omega)
    rwa [p.kdef] at this
  have kd := Lib.hid kd
  by_cases g1 : 1 ≤ K
  · by_cases g2 : K ≤ 10
    · have hT : 0 < T.size := by omega
      by_cases g0 : K = 1
      · obtain rfl : 1 = K := g0.symm
        exact refParse_negOne s T W R V w hs0 hs hX hT p
      · have g1' : 1 < K := by omega
        by_cases gz : (T[0].toNat : Int) = 48
        · have hf := Lib.hid (p.zero g1' hT gz)
          clear p
          go_enter Tryd.func26, Tryd.ntmps26
          go_wp2_with (first
            | (go_at_call_of 47 T; refine (kd.out _).mono ?_; rintro e w' ⟨rfl, rfl⟩)
            | (go_at_call_of 47 Q; refine (kq.out _).mono ?_; rintro e w' ⟨rfl, rfl⟩)
            | (go_at_call_of 48 W; refine (kv.out _).mono ?_; rintro e w' ⟨rfl, rfl⟩)
            | (go_at_call_of 48 Y; refine (kf.out _).mono ?_; rintro e w' ⟨rfl, rfl⟩))
          go_ret2
          exact ⟨by rw [hf.out]; rfl, rfl⟩
        · exact refParse_negMore s T W R K V w hs0 hs hX hT p g1' g2 gz
    · have hf := Lib.hid (p.bad (Or.inr (by omega)))
      clear p
      go_enter Tryd.func26, Tryd.ntmps26
      go_wp2_with (first
        | (go_at_call_of 47 T; refine (kd.out _).mono ?_; rintro e w' ⟨rfl, rfl⟩)
        | (go_at_call_of 47 Q; refine (kq.out _).mono ?_; rintro e w' ⟨rfl, rfl⟩)
        | (go_at_call_of 48 W; refine (kv.out _).mono ?_; rintro e w' ⟨rfl, rfl⟩)
        | (go_at_call_of 48 Y; refine (kf.out _).mono ?_; rintro e w' ⟨rfl, rfl⟩))
      go_ret2
      exact ⟨by rw [hf.out]; rfl, rfl⟩
  · have hf := Lib.hid (p.bad (Or.inl (by omega)))
    clear p
    go_enter Tryd.func26, Tryd.ntmps26
    go_wp2_with (first
      | (go_at_call_of 47 T; refine (kd.out _).mono ?_; rintro e w' ⟨rfl, rfl⟩)
      | (go_at_call_of 47 Q; refine (kq.out _).mono ?_; rintro e w' ⟨rfl, rfl⟩)
      | (go_at_call_of 48 W; refine (kv.out _).mono ?_; rintro e w' ⟨rfl, rfl⟩)
      | (go_at_call_of 48 Y; refine (kf.out _).mono ?_; rintro e w' ⟨rfl, rfl⟩))
    go_ret2
    exact ⟨by rw [hf.out]; rfl, rfl⟩
set_option maxRecDepth 100000 in
set_option maxHeartbeats 40000000 in
theorem refParse_pos (s : ByteArray) (w : World) (h60 : s.size ≤ 60) (hs0 : 0 < s.size) (hs : (s[0].toNat : Int) ≠ 45) :
    Calls Tryd.prog 26 #[.string s] w fun e w' => e = .returned (refL false s.data.toList) ∧ w = w' := by
  have hT60 := h60
  obtain ⟨K, W, V, R, p⟩ := parts false s hT60
  have q1 := p.kle
  have q2 := p.wdef
  have q3 := p.rdef
  have q4 : R.size ≤ 60 := by have := p.rsize; omega
  have kd : ∀ w, Calls Tryd.prog 47 #[.string s] w fun e w' => e = .returned (.int .i64 K) ∧ w = w' := fun w => by
    have := digits_any s w (by omega)
    rwa [p.kdef] at this
  have kd := Lib.hid kd
  by_cases g1 : 1 ≤ K
  · by_cases g2 : K ≤ 10
    · have hT : 0 < s.size := by omega
      by_cases g0 : K = 1
      · obtain rfl : 1 = K := g0.symm
        exact refParse_posOne s W R V w hs0 hs hT p
      · have g1' : 1 < K := by omega
        by_cases gz : (s[0].toNat : Int) = 48
        · have hf := Lib.hid (p.zero g1' hT gz)
          clear p
          go_enter Tryd.func26, Tryd.ntmps26
          go_wp2_with (first
            | (go_at_call_of 47 s; refine (kd.out _).mono ?_; rintro e w' ⟨rfl, rfl⟩)
            | (go_at_call_of 47 Q; refine (kq.out _).mono ?_; rintro e w' ⟨rfl, rfl⟩)
            | (go_at_call_of 48 W; refine (kv.out _).mono ?_; rintro e w' ⟨rfl, rfl⟩)
            | (go_at_call_of 48 Y; refine (kf.out _).mono ?_; rintro e w' ⟨rfl, rfl⟩))
          go_ret2
          exact ⟨by rw [hf.out]; rfl, rfl⟩
        · exact refParse_posMore s W R K V w hs0 hs hT p g1' g2 gz
    · have hf := Lib.hid (p.bad (Or.inr (by omega)))
      clear p
      go_enter Tryd.func26, Tryd.ntmps26
      go_wp2_with (first
        | (go_at_call_of 47 s; refine (kd.out _).mono ?_; rintro e w' ⟨rfl, rfl⟩)
        | (go_at_call_of 47 Q; refine (kq.out _).mono ?_; rintro e w' ⟨rfl, rfl⟩)
        | (go_at_call_of 48 W; refine (kv.out _).mono ?_; rintro e w' ⟨rfl, rfl⟩)
        | (go_at_call_of 48 Y; refine (kf.out _).mono ?_; rintro e w' ⟨rfl, rfl⟩))
      go_ret2
      exact ⟨by rw [hf.out]; rfl, rfl⟩
  · have hf := Lib.hid (p.bad (Or.inl (by omega)))
    clear p
    go_enter Tryd.func26, Tryd.ntmps26
    go_wp2_with (first
      | (go_at_call_of 47 s; refine (kd.out _).mono ?_; rintro e w' ⟨rfl, rfl⟩)
      | (go_at_call_of 47 Q; refine (kq.out _).mono ?_; rintro e w' ⟨rfl, rfl⟩)
      | (go_at_call_of 48 W; refine (kv.out _).mono ?_; rintro e w' ⟨rfl, rfl⟩)
      | (go_at_call_of 48 Y; refine (kf.out _).mono ?_; rintro e w' ⟨rfl, rfl⟩))
    go_ret2
    exact ⟨by rw [hf.out]; rfl, rfl⟩
set_option maxRecDepth 100000 in
set_option maxHeartbeats 40000000 in
theorem refParse_empty (s : ByteArray) (w : World) (hs : s.size = 0) :
    Calls Tryd.prog 26 #[.string s] w fun e w' => e = .returned (refL false s.data.toList) ∧ w = w' := by
  obtain ⟨K, W, V, R, p⟩ := parts false s (by omega)
  have hT60 := p.small
  have q1 := p.kle
  have q2 := p.wdef
  have q3 := p.rdef
  have q4 : R.size ≤ 60 := by have := p.rsize; omega
  have kd : ∀ w, Calls Tryd.prog 47 #[.string s] w fun e w' => e = .returned (.int .i64 K) ∧ w = w' := fun w => by
    have := digits_any s w (by omega)
    rwa [p.kdef] at this
  have kd := Lib.hid kd
  have g : K = 0 := by omega
  have hf := Lib.hid (p.bad (Or.inl (by omega)))
  clear p
  subst g
  go_enter Tryd.func26, Tryd.ntmps26
  go_wp2_with (first
    | (go_at_call_of 47 s; refine (kd.out _).mono ?_; rintro e w' ⟨rfl, rfl⟩)
    | (go_at_call_of 47 Q; refine (kq.out _).mono ?_; rintro e w' ⟨rfl, rfl⟩)
    | (go_at_call_of 48 W; refine (kv.out _).mono ?_; rintro e w' ⟨rfl, rfl⟩)
    | (go_at_call_of 48 Y; refine (kf.out _).mono ?_; rintro e w' ⟨rfl, rfl⟩))
  go_ret2
  exact ⟨by rw [hf.out]; rfl, rfl⟩
end Go.Proofs.YtleddfceigmlmaaDoor
