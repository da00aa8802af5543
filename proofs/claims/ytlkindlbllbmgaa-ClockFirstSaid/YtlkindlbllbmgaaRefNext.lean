/- Next: the reference's. -/
import Derived.Test.YtlkindlbllbmgaaNext
namespace Go.Proofs.Ytlkindlbllbmgaa
open Go.RowKit

/-- After the first k elements on the day d: what has been found. -/
def DayR (l : List Hr) (t d b : Int) (f : Bool) : Prop := (f = true → dayOk l t d b) ∧ (f = false → dayNo l t d)
theorem DayR.keep {l : List Hr} {x : Hr} {t d b : Int} {f : Bool} (h : DayR l t d b f) (k : dayNo [x] t d) : DayR (l ++ [x]) t d b f := ⟨fun e => dayOk_keep (h.1 e) k, fun e => dayNo_snoc (h.2 e) k⟩
theorem DayR.new {l : List Hr} {x : Hr} {t d b u : Int} {f : Bool} (h : DayR l t d b f) (k : dayOk [x] t d u) (hb : f = false ∨ u < b) : DayR (l ++ [x]) t d u true := by
  refine ⟨fun _ => ?_, fun e => absurd e (by decide)⟩
  cases f
  · exact dayOk_new (h.2 rfl) k
  · rcases hb with hb | hb
    · exact absurd hb (by decide)
    · exact dayOk_less (h.1 rfl) k hb
theorem DayR.more {l : List Hr} {x : Hr} {t d b u : Int} (h : DayR l t d b true) (k : dayOk [x] t d u) (hb : ¬ u < b) : DayR (l ++ [x]) t d b true := ⟨fun _ => dayOk_more (h.1 rfl) k hb, fun e => absurd e (by decide)⟩
theorem hr_one {w : World} {x y z : Int} : Hrs (w.alloc (.cells #[.int .i64 x, .int .i64 y, .int .i64 z] 42)) (w.alloc (.cells #[.int .i64 x, .int .i64 y, .int .i64 z] 42)).heap.size (some ⟨w.heap.size, 0, none⟩) [(x, y, z)] := fun _ => by
  refine ⟨_, rfl, by simp, fun i hi => ?_⟩
  obtain rfl : i = 0 := by simp at hi; omega
  exact ⟨by simp [World.cell?_alloc_new, hd, add_0], by simp [World.cell?_alloc_new, hf, add_0], by simp [World.cell?_alloc_new, ht, add_0]⟩
theorem in_one (x y z t : Int) (w : World) : Calls Try.prog 21 #[.slice (some ⟨w.heap.size, 0, none⟩) 1 1, .int .i64 t] (w.alloc (.cells #[.int .i64 x, .int .i64 y, .int .i64 z] 42)) fun e w' => e = .returned (.bool (inHB [(x, y, z)] t)) ∧ Below w.heap.size w w' :=
  (refIn_any (some ⟨w.heap.size, 0, none⟩) [(x, y, z)] 1 t _ hr_one (by simp)).mono fun _ _ ⟨a, b⟩ => ⟨a, ((Below.refl _ _).alloc (Nat.le_refl _) _).trans (b.mono (by simp))⟩

set_option maxRecDepth 100000 in
set_option maxHeartbeats 4000000 in
theorem refNext_any (A : Option Addr) (l : List Hr) (cap : Nat) (t : Int) (w : World) (hp : Hrs w w.heap.size A l) (hmax : l.length ≤ 9223372036854775807) :
    Calls Try.prog 23 #[.slice A l.length cap, .int .i64 t] w fun e w' => e = .returned (.tuple #[.int .i64 (nextU l t), .bool (nextB l t)]) ∧ Below w.heap.size w w' := by
  by_cases hl : 20000000 < t
  · obtain ⟨e1, e2⟩ := next_not (nextNo_late (l := l) hl)
    rw [e1, e2]
    clear e1 e2 hp
    go_enter Try.func23, Try.ntmps23
    go_wp2
    go_ret2
    exact ⟨rfl, Below.refl _ _⟩
  · have hP := Lib.hid hp
    clear hp
    have hyes := Lib.hid (fun u (h : nextOk l (max t 0) u) => nextU_zero l t u h)
    have hno := Lib.hid (fun (h : nextNo l (max t 0)) => next_not (nextNo_zero h))
    have hT0 : 0 ≤ max t 0 ∧ max t 0 ≤ 20000000 := by omega
    obtain ⟨T, hT⟩ : ∃ T, max t 0 = T := ⟨_, rfl⟩
    rw [hT] at hyes hno hT0
    obtain ⟨b1, b2⟩ := hT0
    have hdv : dayV T = T / 86400 := by simp [dayV, timeB_mk ⟨b1, b2⟩]
    have kD := fun w => refDay_any T w
    rw [hdv] at kD
    have hup := upTo_start l T b1
    have h8 := fun h => hno.out (upTo_eight (l := l) b1 h)
    have hd0 : 0 ≤ T / 86400 ∧ T / 86400 ≤ 231 := by omega
    generalize T / 86400 = D at *
    obtain ⟨d1, d2⟩ := hd0
    have kD := Lib.hid kD
    have h8 := Lib.hid h8
    clear hdv hno
    go_enter Try.func23, Try.ntmps23
    go_wp2_with (go_at_call 13; refine (kD.out _).mono ?_; rintro e w2 ⟨rfl, rfl⟩)
    go_loopw [6] (fun dv wr => ∃ d : Int, D ≤ d ∧ d ≤ D + 8 ∧ dv = .int .i64 d ∧ Hid (upTo l T d) ∧ Below w.heap.size w wr) (fun dv _ => (D + 8 - intOf dv).toNat)
    case atStart => exact ⟨D, by omega, by omega, rfl, Lib.hid hup, Below.refl _ _⟩
    case round =>
      obtain ⟨wo, rfl⟩ : ∃ wo, wo = wr := ⟨wr, rfl⟩
      obtain ⟨d, g1, g2, rfl, hu, hb⟩ := hrel
      have hb' := Lib.hid hb
      clear hb hup
      by_cases hlt : d ≤ D + 7
      · go_wp2_with (go_at_call 13; refine (kD.out _).mono ?_; rintro e w2 ⟨rfl, rfl⟩)
        go_loopw [7, 8, 9] (fun bv fv iv wr => ∃ (k : Nat) (b : Int) (f : Bool), k ≤ l.length ∧ iv = .int .i64 k ∧ bv = .int .i64 b ∧ fv = .bool f ∧ Hid (DayR (l.take k) T d b f) ∧ Below w.heap.size w wr) (fun _ _ iv _ => l.length - (intOf iv).toNat)
        case atStart => exact ⟨0, 0, false, by omega, rfl, rfl, rfl, Lib.hid ⟨fun h => absurd h (by decide), fun _ => dayNo_nil T d⟩, hb'.out⟩
        case round =>
          obtain ⟨k, b, f, hk, rfl, rfl, rfl, hR, hb2⟩ := hrel
          by_cases hlk : k < l.length
          · obtain ⟨ad, rfl, hc⟩ := hP.out.get hlk
            obtain ⟨x0, x1, x2⟩ := hc wr hb2
            have hbw := Lib.hid hb2
            have hE := Lib.hid (take_h hlk)
            clear hb2 hc
            obtain ⟨U, hU⟩ : ∃ U, max T (d * 86400 + max 0 (min (hf l k) 86400)) = U := ⟨_, rfl⟩
            have hd0 : 0 ≤ d := by omega
            have u1 : 0 ≤ U := by omega
            have u2 : U ≤ 40000000 := by omega
            by_cases hUd : U < (d + 1) * 86400
            · have kI := fun w1 => in_one (hd l k) (hf l k) (ht l k) U w1
              have hUd2 : U < d * 86400 + 86400 := by omega
              rcases hi : inHB [(hd l k, hf l k, ht l k)] U with _ | _
              · have hR' := Lib.hid (show DayR (l.take (k + 1)) T d b f by rw [hE.out]; exact hR.out.keep (one_no hd0 hU.symm hUd2 (inHB_not hi)))
                rw [hi] at kI
                have kI := Lib.hid kI
                clear hi hR
                go_wp2_with (go_at_call 21; refine (kI.out _).mono ?_; rintro e w4 ⟨rfl, b⟩; (have zb := Lib.hid (hbw.out.trans (b.mono hbw.out.size))); clear b)
                exact ⟨⟨k + 1, b, f, hlk, by go_num, rfl, rfl, hR', zb.out⟩, by simp [intOf]; omega⟩
              · have hone := one_yes (h := (hd l k, hf l k, ht l k)) hd0 hU.symm hUd2 (inHB_of hi)
                rw [hi] at kI
                have kI := Lib.hid kI
                clear hi
                cases f
                · have hR' := Lib.hid (show DayR (l.take (k + 1)) T d U true by rw [hE.out]; exact hR.out.new hone (.inl rfl))
                  clear hR hone
                  go_wp2_with (go_at_call 21; refine (kI.out _).mono ?_; rintro e w4 ⟨rfl, b⟩; (have zb := Lib.hid (hbw.out.trans (b.mono hbw.out.size))); clear b)
                  exact ⟨⟨k + 1, U, true, hlk, by go_num, rfl, rfl, hR', zb.out⟩, by simp [intOf]; omega⟩
                · by_cases hub : U < b
                  · have hR' := Lib.hid (show DayR (l.take (k + 1)) T d U true by rw [hE.out]; exact hR.out.new hone (.inr hub))
                    clear hR hone
                    go_wp2_with (go_at_call 21; refine (kI.out _).mono ?_; rintro e w4 ⟨rfl, b⟩; (have zb := Lib.hid (hbw.out.trans (b.mono hbw.out.size))); clear b)
                    exact ⟨⟨k + 1, U, true, hlk, by go_num, rfl, rfl, hR', zb.out⟩, by simp [intOf]; omega⟩
                  · have hR' := Lib.hid (show DayR (l.take (k + 1)) T d b true by rw [hE.out]; exact hR.out.more hone hub)
                    have hdu : decide (U < b) = false := decide_eq_false hub
                    clear hR hone
                    go_wp2_with (go_at_call 21; refine (kI.out _).mono ?_; rintro e w4 ⟨rfl, b⟩; (have zb := Lib.hid (hbw.out.trans (b.mono hbw.out.size))); clear b)
                    exact ⟨⟨k + 1, b, true, hlk, by go_num, rfl, rfl, hR', zb.out⟩, by simp [intOf]; omega⟩
            · have hR' := Lib.hid (show DayR (l.take (k + 1)) T d b f by rw [hE.out]; exact hR.out.keep (one_late hU.symm (by omega)))
              have hdu : decide (U < (d + 1) * 86400) = false := decide_eq_false hUd
              clear hR
              go_wp2
              exact ⟨⟨k + 1, b, f, hlk, by go_num, rfl, rfl, hR', hbw.out⟩, by simp [intOf]; omega⟩
          · obtain rfl : k = l.length := by omega
            rw [List.take_length] at hR
            have hbw := Lib.hid hb2
            clear hb2
            cases f
            · have hu' := Lib.hid (upTo_next hu.out (hR.out.2 rfl))
              clear hR hu
              go_wp2
              exact ⟨⟨d + 1, by omega, by omega, rfl, hu', hbw.out⟩, by simp [intOf]; omega⟩
            · obtain ⟨y1, y2⟩ := hyes.out _ (upTo_found hu.out (hR.out.1 rfl))
              have y1 := Lib.hid y1
              have y2 := Lib.hid y2
              clear hR hu
              go_wp2
              go_ret2
              exact ⟨by rw [y1.out, y2.out]; rfl, hbw.out⟩
      · obtain rfl : d = D + 8 := by omega
        obtain ⟨y1, y2⟩ := h8.out hu.out
        have y1 := Lib.hid y1
        have y2 := Lib.hid y2
        clear hu h8
        go_wp2_with (go_at_call 13; refine (kD.out _).mono ?_; rintro e w2 ⟨rfl, rfl⟩)
        go_ret2
        exact ⟨by rw [y1.out, y2.out]; rfl, hb'.out⟩
end Go.Proofs.Ytlkindlbllbmgaa
