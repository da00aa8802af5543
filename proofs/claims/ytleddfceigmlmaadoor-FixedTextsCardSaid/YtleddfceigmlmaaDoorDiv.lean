/- The walk of math/bits.Div64: for hi < y the quotient and the remainder of hi * 2^64 + lo by y. -/
import Derived.Test.YtleddfceigmlmaaDoorShelf
import Derived.Test.YtleddfceigmlmaaDoorPlainDiv
import Derived.WalkKit
import Derived.WalkLawsBesides
import Derived.Deep.QuietTactic
import Derived.BigQuiet
import Derived.Outline
import Derived.Lib.Hide
namespace Go.Proofs.YtleddfceigmlmaaDoor
open Go.RowKit PlainDiv

theorem div64_small (lo y : Nat) (w : World) (h1 : 0 < y) (h2 : y < 18446744073709551616) (h4 : lo < 18446744073709551616) :
    Calls Tryd.prog 54 #[.int .u64 0, .int .u64 lo, .int .u64 y] w fun e w' => e = .returned (.tuple #[.int .u64 ((lo / y : Nat) : Int), .int .u64 ((lo % y : Nat) : Int)]) ∧ ∃ n, w' = w.drewN n := by
  have e1 : ((y : Int) == 0) = false := by simp; omega
  have e2 : decide ((y : Int) ≤ 0) = false := by simp; omega
  have e3 : IntKind.u64.wrap ((lo : Int) / (y : Int)) = ((lo / y : Nat) : Int) := by
    have := Nat.div_le_self lo y
    rw [IntKind.wrap_u64, ← Int.natCast_ediv]
    generalize lo / y = q at *
    omega
  go_enter Tryd.func54, Tryd.ntmps54
  go_wp2
  go_quiet (fail)
  go_wp2
  go_ret2
  exact ⟨rfl, _, rfl⟩
set_option maxRecDepth 100000 in
set_option maxHeartbeats 4000000 in
theorem div64_walk (s bl : Nat) (hi lo y Y yh yl u L u1 u0 Q1 U2 Q2 U3 q r q0 r0 : Int) (R1 R2 : Int → Int → Prop) (w : World) (h0 : 0 < hi) (h1 : hi < y) (_h2 : y < 18446744073709551616) (hs : s + bl = 64) (hs2 : s < 64)
    (hlz : Calls Tryd.prog 61 #[.int .u64 y] w fun e w' => e = .returned (.int .i64 (64 - (bl : Int))) ∧ w' = w)
    (EY : IntKind.u64.wrap (y * 2 ^ s) = Y) (Eh : Y / 4294967296 = yh) (El : bits .and .u64 Y 4294967295 = yl)
    (Eu : bits .or .u64 (IntKind.u64.wrap (hi * 2 ^ s)) (lo / 2 ^ (64 - s)) = u) (EL : IntKind.u64.wrap (lo * 2 ^ s) = L) (E1 : L / 4294967296 = u1) (E0 : bits .and .u64 L 4294967295 = u0)
    (Eq1 : IntKind.u64.wrap (u.tdiv yh) = q) (Er1 : IntKind.u64.wrap (u - IntKind.u64.wrap (q * yh)) = r)
    (E2 : IntKind.u64.wrap (IntKind.u64.wrap (IntKind.u64.wrap (u * 4294967296) + u1) - IntKind.u64.wrap (Q1 * Y)) = U2)
    (Eq2 : IntKind.u64.wrap (U2.tdiv yh) = q0) (Er2 : IntKind.u64.wrap (U2 - IntKind.u64.wrap (q0 * yh)) = r0)
    (E3 : IntKind.u64.wrap (IntKind.u64.wrap (IntKind.u64.wrap (U2 * 4294967296) + u0) - IntKind.u64.wrap (Q2 * Y)) = U3)
    (yh1 : 2147483648 ≤ yh) (yh2 : yh < 4294967296) (u1a : 0 ≤ u1) (u1b : u1 < 4294967296) (u0a : 0 ≤ u0) (u0b : u0 < 4294967296) (_ua : 0 ≤ u) (_U2a : 0 ≤ U2) (_U3a : 0 ≤ U3) (_Ya : 0 ≤ Y) (_La : 0 ≤ L) (_la : 0 ≤ lo)
    (Q1a : 0 ≤ Q1) (Q1b : Q1 < 4294967296) (Q2a : 0 ≤ Q2) (Q2b : Q2 < 4294967296)
    (S1 : Step u1 yh yl Q1 R1) (S2 : Step u0 yh yl Q2 R2)
    (qa : 0 ≤ q) (qb : q ≤ 4294967297) (ra : 0 ≤ r) (rb : r < 4294967296) (I1 : Hid (R1 q r)) (q0a : 0 ≤ q0) (q0b : q0 ≤ 4294967297) (r0a : 0 ≤ r0) (r0b : r0 < 4294967296) (I2 : Hid (R2 q0 r0)) :
    Calls Tryd.prog 54 #[.int .u64 hi, .int .u64 lo, .int .u64 y] w fun e w' => e = .returned (.tuple #[.int .u64 (Q1 * 4294967296 + Q2), .int .u64 (U3 / 2 ^ s)]) ∧ w = w' := by
  have e1 : (y == 0) = false := by simp; omega
  have e2 : decide (y ≤ hi) = false := by simp; omega
  have e3 : (hi == 0) = false := by simp; omega
  have Es : IntKind.u64.wrap (64 - (bl : Int)) = (s : Int) := by rw [IntKind.wrap_u64]; omega
  have Es' : ((64 : Int) - (s : Int)).toNat = 64 - s := by omega
  clear hs
  have hlz := Lib.hid hlz
  go_enter Tryd.func54, Tryd.ntmps54
  go_wp2_with (go_at_call 61; refine hlz.out.mono ?_; rintro e w' ⟨rfl, rfl⟩)
  clear Eq1 Er1 EY Eh El Eu EL E1 E0 Es Es' e1 e2 e3 h0 h1 _h2 hlz
  go_loop [15, 16] (fun a b => ∃ q r : Int, a = .int .u64 q ∧ b = .int .u64 r ∧ 0 ≤ q ∧ q ≤ 4294967297 ∧ 0 ≤ r ∧ r < 4294967296 ∧ Hid (R1 q r)) (fun a _ => (intOf a).toNat)
  case atStart => exact ⟨q, r, rfl, rfl, qa, qb, ra, rb, I1⟩
  case round =>
    obtain ⟨q', r', rfl, rfl, t1, t2, t3, t4, T⟩ := hrel
    clear I1 qa qb ra rb
    by_cases c1 : q' < 4294967296
    · have hsm := S1.small q' t1 c1
      obtain ⟨m, hm⟩ : ∃ m, q' * yl = m := ⟨_, rfl⟩
      rw [hm] at hsm
      have Em : IntKind.u64.wrap (q' * yl) = m := by rw [hm, IntKind.wrap_u64]; omega
      have hm1 := hsm.1
      clear hsm
      by_cases c2 : m ≤ 4294967296 * r' + u1
      · have hy := S1.exit q' r' t1 t3 T.out (by rw [hm]; exact c2)
        clear hm T t2
        subst hy
        go_wp2
        try clear c1
        try clear c2
        try clear c3
        try clear Em
        try clear hm1
        try clear E2
        go_loop [18, 16] (fun a b => ∃ q r : Int, a = .int .u64 q ∧ b = .int .u64 r ∧ 0 ≤ q ∧ q ≤ 4294967297 ∧ 0 ≤ r ∧ r < 4294967296 ∧ Hid (R2 q r)) (fun a _ => (intOf a).toNat)
        case atStart => exact ⟨q0, r0, rfl, rfl, q0a, q0b, r0a, r0b, I2⟩
        case round =>
          obtain ⟨q', r', rfl, rfl, t1, t2, t3, t4, T⟩ := hrel
          clear I2 q0a q0b r0a r0b
          by_cases c1 : q' < 4294967296
          · have hsm := S2.small q' t1 c1
            obtain ⟨m, hm⟩ : ∃ m, q' * yl = m := ⟨_, rfl⟩
            rw [hm] at hsm
            have Em : IntKind.u64.wrap (q' * yl) = m := by rw [hm, IntKind.wrap_u64]; omega
            have hm1 := hsm.1
            clear hsm
            by_cases c2 : m ≤ 4294967296 * r' + u0
            · have hy := S2.exit q' r' t1 t3 T.out (by rw [hm]; exact c2)
              clear hm T t2
              subst hy
              go_wp2
              go_ret2
              exact ⟨rfl, rfl⟩
            · have hx := S2.lower q' r' t1 t3 T.out (by rw [hm]; omega)
              have T' := Lib.hid hx.1
              have T2 := hx.2
              clear hx T hm
              by_cases c3 : r' + yh < 4294967296
              · go_wp2
                refine ⟨⟨_, _, rfl, rfl, ?_, ?_, ?_, ?_, T'⟩, ?_⟩
                all_goals (first | omega | (simp [intOf]; omega))
              · have hy := S2.exit2 (q' - 1) (r' + yh) (by omega) (by omega) T'.out (by omega)
                obtain rfl : q' = Q2 + 1 := by omega
                clear hy T'
                go_wp2
                go_ret2
                exact ⟨rfl, rfl⟩
          · have T' := Lib.hid (S2.big q' r' t3 T.out (by omega))
            clear T
            by_cases c3 : r' + yh < 4294967296
            · go_wp2
              refine ⟨⟨_, _, rfl, rfl, ?_, ?_, ?_, ?_, T'⟩, ?_⟩
              all_goals (first | omega | (simp [intOf]; omega))
            · have hy := S2.exit2 (q' - 1) (r' + yh) (by omega) (by omega) T'.out (by omega)
              obtain rfl : q' = Q2 + 1 := by omega
              clear hy T'
              go_wp2
              go_ret2
              exact ⟨rfl, rfl⟩
      · have hx := S1.lower q' r' t1 t3 T.out (by rw [hm]; omega)
        have T' := Lib.hid hx.1
        have T2 := hx.2
        clear hx T hm
        by_cases c3 : r' + yh < 4294967296
        · go_wp2
          refine ⟨⟨_, _, rfl, rfl, ?_, ?_, ?_, ?_, T'⟩, ?_⟩
          all_goals (first | omega | (simp [intOf]; omega))
        · have hy := S1.exit2 (q' - 1) (r' + yh) (by omega) (by omega) T'.out (by omega)
          obtain rfl : q' = Q1 + 1 := by omega
          clear hy T'
          go_wp2
          try clear c1
          try clear c2
          try clear c3
          try clear Em
          try clear hm1
          try clear E2
          go_loop [18, 16] (fun a b => ∃ q r : Int, a = .int .u64 q ∧ b = .int .u64 r ∧ 0 ≤ q ∧ q ≤ 4294967297 ∧ 0 ≤ r ∧ r < 4294967296 ∧ Hid (R2 q r)) (fun a _ => (intOf a).toNat)
          case atStart => exact ⟨q0, r0, rfl, rfl, q0a, q0b, r0a, r0b, I2⟩
          case round =>
            obtain ⟨q', r', rfl, rfl, t1, t2, t3, t4, T⟩ := hrel
            clear I2 q0a q0b r0a r0b
            by_cases c1 : q' < 4294967296
            · have hsm := S2.small q' t1 c1
              obtain ⟨m, hm⟩ : ∃ m, q' * yl = m := ⟨_, rfl⟩
              rw [hm] at hsm
              have Em : IntKind.u64.wrap (q' * yl) = m := by rw [hm, IntKind.wrap_u64]; omega
              have hm1 := hsm.1
              clear hsm
              by_cases c2 : m ≤ 4294967296 * r' + u0
              · have hy := S2.exit q' r' t1 t3 T.out (by rw [hm]; exact c2)
                clear hm T t2
                subst hy
                go_wp2
                go_ret2
                exact ⟨rfl, rfl⟩
              · have hx := S2.lower q' r' t1 t3 T.out (by rw [hm]; omega)
                have T' := Lib.hid hx.1
                have T2 := hx.2
                clear hx T hm
                by_cases c3 : r' + yh < 4294967296
                · go_wp2
                  refine ⟨⟨_, _, rfl, rfl, ?_, ?_, ?_, ?_, T'⟩, ?_⟩
                  all_goals (first | omega | (simp [intOf]; omega))
                · have hy := S2.exit2 (q' - 1) (r' + yh) (by omega) (by omega) T'.out (by omega)
                  obtain rfl : q' = Q2 + 1 := by omega
                  clear hy T'
                  go_wp2
                  go_ret2
                  exact ⟨rfl, rfl⟩
            · have T' := Lib.hid (S2.big q' r' t3 T.out (by omega))
              clear T
              by_cases c3 : r' + yh < 4294967296
              · go_wp2
                refine ⟨⟨_, _, rfl, rfl, ?_, ?_, ?_, ?_, T'⟩, ?_⟩
                all_goals (first | omega | (simp [intOf]; omega))
              · have hy := S2.exit2 (q' - 1) (r' + yh) (by omega) (by omega) T'.out (by omega)
                obtain rfl : q' = Q2 + 1 := by omega
                clear hy T'
                go_wp2
                go_ret2
                exact ⟨rfl, rfl⟩
    · have T' := Lib.hid (S1.big q' r' t3 T.out (by omega))
      clear T
      by_cases c3 : r' + yh < 4294967296
      · go_wp2
        refine ⟨⟨_, _, rfl, rfl, ?_, ?_, ?_, ?_, T'⟩, ?_⟩
        all_goals (first | omega | (simp [intOf]; omega))
      · have hy := S1.exit2 (q' - 1) (r' + yh) (by omega) (by omega) T'.out (by omega)
        obtain rfl : q' = Q1 + 1 := by omega
        clear hy T'
        go_wp2
        try clear c1
        try clear c2
        try clear c3
        try clear Em
        try clear hm1
        try clear E2
        go_loop [18, 16] (fun a b => ∃ q r : Int, a = .int .u64 q ∧ b = .int .u64 r ∧ 0 ≤ q ∧ q ≤ 4294967297 ∧ 0 ≤ r ∧ r < 4294967296 ∧ Hid (R2 q r)) (fun a _ => (intOf a).toNat)
        case atStart => exact ⟨q0, r0, rfl, rfl, q0a, q0b, r0a, r0b, I2⟩
        case round =>
          obtain ⟨q', r', rfl, rfl, t1, t2, t3, t4, T⟩ := hrel
          clear I2 q0a q0b r0a r0b
          by_cases c1 : q' < 4294967296
          · have hsm := S2.small q' t1 c1
            obtain ⟨m, hm⟩ : ∃ m, q' * yl = m := ⟨_, rfl⟩
            rw [hm] at hsm
            have Em : IntKind.u64.wrap (q' * yl) = m := by rw [hm, IntKind.wrap_u64]; omega
            have hm1 := hsm.1
            clear hsm
            by_cases c2 : m ≤ 4294967296 * r' + u0
            · have hy := S2.exit q' r' t1 t3 T.out (by rw [hm]; exact c2)
              clear hm T t2
              subst hy
              go_wp2
              go_ret2
              exact ⟨rfl, rfl⟩
            · have hx := S2.lower q' r' t1 t3 T.out (by rw [hm]; omega)
              have T' := Lib.hid hx.1
              have T2 := hx.2
              clear hx T hm
              by_cases c3 : r' + yh < 4294967296
              · go_wp2
                refine ⟨⟨_, _, rfl, rfl, ?_, ?_, ?_, ?_, T'⟩, ?_⟩
                all_goals (first | omega | (simp [intOf]; omega))
              · have hy := S2.exit2 (q' - 1) (r' + yh) (by omega) (by omega) T'.out (by omega)
                obtain rfl : q' = Q2 + 1 := by omega
                clear hy T'
                go_wp2
                go_ret2
                exact ⟨rfl, rfl⟩
          · have T' := Lib.hid (S2.big q' r' t3 T.out (by omega))
            clear T
            by_cases c3 : r' + yh < 4294967296
            · go_wp2
              refine ⟨⟨_, _, rfl, rfl, ?_, ?_, ?_, ?_, T'⟩, ?_⟩
              all_goals (first | omega | (simp [intOf]; omega))
            · have hy := S2.exit2 (q' - 1) (r' + yh) (by omega) (by omega) T'.out (by omega)
              obtain rfl : q' = Q2 + 1 := by omega
              clear hy T'
              go_wp2
              go_ret2
              exact ⟨rfl, rfl⟩
end Go.Proofs.YtleddfceigmlmaaDoor
