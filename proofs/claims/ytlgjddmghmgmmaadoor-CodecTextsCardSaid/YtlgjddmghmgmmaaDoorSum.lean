/- Sum: the program's and the reference's. -/
import Derived.Test.YtlgjddmghmgmmaaDoorMem
import Derived.Laws.BitsAllLaws
import Derived.Lib.LaidTab
import Derived.WalkSpells
import Derived.IntWalk
namespace Go.Proofs.YtlgjddmghmgmmaaDoor
open Go.RowKit

/-- The package's table in memory. -/
def Env (w : World) : Prop := ∀ i, i < 16 → w.cell? ⟨0, i, none⟩ = some (.int .u32 (stepN 4 i : Nat))
theorem tab_global : Tryd.prog.globalNamed "skiarea/codec.sumSteps" = some 0 := by kernel_rfl
theorem Env.of {w : World} (h : Lib.TabIs Tryd.prog w "skiarea/codec.sumSteps" .u32 steps) : Env w := fun i hi => by
  rw [Lib.TabIs.cell h tab_global i (by rw [steps_len]; exact hi), steps_at hi]
theorem Env.at {w : World} (h : Env w) {i : Nat} (hi : i < 16) : w.cell? ⟨0, i, none⟩ = some (.int .u32 (stepN 4 i : Nat)) := h i hi
theorem Env.lt {w : World} (h : Env w) : 0 < w.heap.size := World.block_lt_of_cell? _ _ (h 0 (by omega))
theorem Env.below {w w' : World} (h : Env w) (hb : Below w.heap.size w w') : Env w' := fun i hi => (hb.cell h.lt).trans (h i hi)

theorem reg_take {l : List UInt8} {k : Nat} (h : k < l.length) (r : Nat) : reg r (l.take (k + 1)) = stepN 8 (reg r (l.take k) ^^^ bx l k) := by
  rw [List.take_succ_eq_append_getElem h, reg_append, bx_at h]
  rfl

theorem half {w : World} {r x : Nat} (he : Env w) (hr : r < 4294967296) (hx : x < 256) : ∃ r1 a1 q1 t1 r2 a2 q2 t2 r3 : Nat,
    bits .xor .u32 (r : Int) (x : Int) = (r1 : Int) ∧ (r1 : Int) / 16 = (a1 : Int) ∧ (r1 : Int) % 16 = (q1 : Int) ∧ bits .xor .u32 (a1 : Int) (t1 : Int) = (r2 : Int) ∧
    (r2 : Int) / 16 = (a2 : Int) ∧ (r2 : Int) % 16 = (q2 : Int) ∧ bits .xor .u32 (a2 : Int) (t2 : Int) = (r3 : Int) ∧ q1 < 16 ∧ q2 < 16 ∧
    w.cell? ⟨0, q1, none⟩ = some (.int .u32 t1) ∧ w.cell? ⟨0, q2, none⟩ = some (.int .u32 t2) ∧ r3 < 4294967296 ∧ stepN 8 (r ^^^ x) = r3 := by
  have h1 : r ^^^ x < 4294967296 := xor_lt32 hr (by omega)
  have hf : ∀ y : Nat, (y / 16) ^^^ stepN 4 (y % 16) = stepN 4 y := fun y => (four y).symm
  have h2 := stepN_lt 4 h1
  have h3 := stepN_lt 4 h2
  have t1 := stepN_lt 4 (r := (r ^^^ x) % 16) (by omega)
  have t2 := stepN_lt 4 (r := stepN 4 (r ^^^ x) % 16) (by omega)
  refine ⟨r ^^^ x, (r ^^^ x) / 16, (r ^^^ x) % 16, stepN 4 ((r ^^^ x) % 16), stepN 4 (r ^^^ x), stepN 4 (r ^^^ x) / 16, stepN 4 (r ^^^ x) % 16, stepN 4 (stepN 4 (r ^^^ x) % 16), stepN 4 (stepN 4 (r ^^^ x)), ?_, rfl, rfl, ?_, rfl, rfl, ?_, by omega, by omega, he.at (by omega), he.at (by omega), h3, (stepN_add 4 4 _).symm ▸ rfl⟩
  · exact u32_xor_nat _ _ hr (by omega)
  · rw [u32_xor_nat _ _ (by omega) t1, hf]
  · rw [u32_xor_nat _ _ (by omega) t2, hf]

set_option maxRecDepth 100000 in
set_option maxHeartbeats 1000000 in
theorem sum_any (A : Option Addr) (l : List UInt8) (c : Nat) (w : World) (he : Env w) (hp : Rd w w.heap.size A c (cells8 l)) (hmax : l.length ≤ 10000000) :
    Calls Tryd.prog 26 #[.slice A l.length c] w fun e w' => e = .returned (.int .u32 (crc l : Nat)) ∧ w = w' := by
  have hP := Lib.hid hp
  have hE := Lib.hid he
  clear hp he
  go_enter Tryd.func26, Tryd.ntmps26
  go_wp2
  go_loop [3, 8] (fun v i => ∃ (k r : Nat), k ≤ l.length ∧ i = .int .i64 k ∧ v = .int .u32 r ∧ r < 4294967296 ∧ Hid (reg 4294967295 (l.take k) = r)) (fun _ i => l.length - (intOf i).toNat)
  case atStart => exact ⟨0, 4294967295, by omega, rfl, rfl, by omega, Lib.hid rfl⟩
  case round =>
    obtain ⟨k, r, hk, rfl, rfl, hr, hR⟩ := hrel
    by_cases hlt : k < l.length
    · obtain ⟨ad, rfl, _, c1⟩ := hP.out.get (cells8_bx hlt)
      have hc0 := bx_lt l k
      generalize hx : bx l k = x at c1 hc0
      have hX := Lib.hid hx
      clear hx hP
      obtain ⟨r1, a1, q1, t1, r2, a2, q2, t2, r3, e1, f1, g1, e2, f2, g2, e3, lq1, lq2, hcq1, hcq2, hr3, hN⟩ := half (w := w) hE.out hr hc0
      have hNext : Hid (reg 4294967295 (l.take (k + 1)) = r3) := Lib.hid (by rw [reg_take hlt, hR.out, hX.out]; exact hN)
      clear hN
      by_cases hk0 : k = 0
      · subst hk0
        have c1 : w.cell? ad = some (.int .u8 (x : Int)) := c1
        go_wp2
        exact ⟨⟨1, r3, by omega, rfl, rfl, hr3, hNext⟩, by simp [intOf]; omega⟩
      · go_wp2
        exact ⟨⟨k + 1, r3, by omega, by go_num, rfl, hr3, hNext⟩, by simp [intOf]; omega⟩
    · obtain rfl : k = l.length := by omega
      have hC : Hid (bits .xor .u32 IntKind.u32.max (r : Int) = (crc l : Nat)) := Lib.hid (by
        have h := hR.out
        rw [List.take_length] at h
        rw [crc, h, Nat.xor_comm]
        exact u32_xor_nat 4294967295 r (by omega) hr)
      clear hP
      go_wp2
      go_ret
      exact ⟨congrArg (fun n => Ending.returned (.int .u32 n)) hC.out, rfl⟩

/-- One step, by its lowest bit. -/
theorem bit_in {r : Nat} (h : r < 4294967296) : bits .and .u32 (r : Int) 1 = ((r % 2 : Nat) : Int) := by
  have := u32_and_nat r 1 h (by omega)
  rw [Nat.and_one_is_mod] at this
  exact this
set_option maxRecDepth 100000 in
set_option maxHeartbeats 2000000 in
theorem refSum_any (A : Option Addr) (l : List UInt8) (c : Nat) (w : World) (hp : Rd w w.heap.size A c (cells8 l)) (hmax : l.length ≤ 10000000) :
    Calls Tryd.prog 27 #[.slice A l.length c] w fun e w' => e = .returned (.int .u32 (crc l : Nat)) ∧ w = w' := by
  have hP := Lib.hid hp
  clear hp
  go_enter Tryd.func27, Tryd.ntmps27
  go_wp2
  go_loop [3, 4] (fun v i => ∃ (k r : Nat), k ≤ l.length ∧ i = .int .i64 k ∧ v = .int .u32 r ∧ r < 4294967296 ∧ Hid (reg 4294967295 (l.take k) = r)) (fun _ i => l.length - (intOf i).toNat)
  case atStart => exact ⟨0, 4294967295, by omega, rfl, rfl, by omega, Lib.hid rfl⟩
  case round =>
    obtain ⟨k, r, hk, rfl, rfl, hr, hR⟩ := hrel
    by_cases hlt : k < l.length
    · obtain ⟨ad, rfl, _, c1⟩ := hP.out.get (cells8_bx hlt)
      have hc0 := bx_lt l k
      generalize hx : bx l k = x at c1 hc0
      have hX := Lib.hid hx
      clear hx hP
      have e1 := u32_xor_nat r x hr (by omega)
      have hr1 : r ^^^ x < 4294967296 := xor_lt32 hr (by omega)
      have hNext : Hid (reg 4294967295 (l.take (k + 1)) = stepN 8 (r ^^^ x)) := Lib.hid (by rw [reg_take hlt, hR.out, hX.out])
      generalize r ^^^ x = r1 at e1 hr1 hNext
      clear hR hX
      have hcell : Hid (w.cell? (if k = 0 then ad else ad.add k) = some (.int .u8 (x : Int))) := Lib.hid (by
        by_cases h : k = 0
        · subst h; exact c1
        · rw [if_neg h]; exact c1)
      clear c1
      by_cases hk0 : k = 0
      all_goals
        have c1 := hcell.out
        first | rw [if_pos hk0] at c1 | rw [if_neg hk0] at c1
        clear hcell
        first | subst hk0 | skip
        go_wp2
        go_loop [3, 5, 6] (fun v j o => ∃ (i r2 : Nat), i ≤ 8 ∧ j = .int .i64 i ∧ v = .int .u32 r2 ∧ r2 < 4294967296 ∧ Hid (stepN i r1 = r2)) (fun _ j _ => 8 - (intOf j).toNat)
        case atStart => exact ⟨0, r1, by omega, rfl, rfl, hr1, Lib.hid rfl⟩
        case round =>
          obtain ⟨i, r2, hi, rfl, rfl, hr2, hS⟩ := hrel
          clear c1
          by_cases hi8 : i < 8
          · have hb := bit_in hr2
            by_cases hodd : r2 % 2 = 1
            · rw [hodd] at hb
              have hx2 : bits .xor .u32 ((r2 : Int) / 2) 2197175160 = (((r2 / 2) ^^^ 2197175160 : Nat) : Int) := u32_xor_nat (r2 / 2) 2197175160 (by omega) (by omega)
              have hst : Hid (stepN (i + 1) r1 = (r2 / 2) ^^^ 2197175160) := Lib.hid (by rw [stepN_succ, hS.out, step, if_pos hodd])
              have hlt2 : (r2 / 2) ^^^ 2197175160 < 4294967296 := xor_lt32 (by omega) (by omega)
              generalize (r2 / 2) ^^^ 2197175160 = r3 at hx2 hst hlt2
              go_wp2
              exact ⟨⟨i + 1, r3, by omega, by go_num, rfl, hlt2, hst⟩, by simp [intOf]; omega⟩
            · have h0 : r2 % 2 = 0 := by omega
              rw [h0] at hb
              have hst : Hid (stepN (i + 1) r1 = r2 / 2) := Lib.hid (by rw [stepN_succ, hS.out, step, if_neg hodd])
              go_wp2
              exact ⟨⟨i + 1, r2 / 2, by omega, by go_num, by go_num, by omega, hst⟩, by simp [intOf]; omega⟩
          · obtain rfl : i = 8 := by omega
            have hEnd := Lib.hid (hNext.out.trans hS.out)
            clear hNext hS
            go_wp2
            first
              | exact ⟨⟨1, r2, by omega, rfl, rfl, hr2, hEnd⟩, by simp [intOf]; omega⟩
              | exact ⟨⟨k + 1, r2, by omega, by go_num, rfl, hr2, hEnd⟩, by simp [intOf]; omega⟩
    · obtain rfl : k = l.length := by omega
      have hC : Hid (bits .xor .u32 (r : Int) 4294967295 = (crc l : Nat)) := Lib.hid (by
        have h := hR.out
        rw [List.take_length] at h
        rw [crc, h]
        exact u32_xor_nat r 4294967295 hr (by omega))
      clear hP
      go_wp2
      go_ret
      exact ⟨congrArg (fun n => Ending.returned (.int .u32 n)) hC.out, rfl⟩
end Go.Proofs.YtlgjddmghmgmmaaDoor
