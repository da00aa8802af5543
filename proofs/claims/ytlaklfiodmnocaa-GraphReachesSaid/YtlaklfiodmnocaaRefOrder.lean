/- The reference's Order. -/
import Derived.Test.YtlaklfiodmnocaaRefRight
namespace Go.Proofs.Ytlaklfiodmnocaa
open Go.RowKit

def pickB (l : List Ed) (o : List Int) (n : Int) : Bool := !hasB o n && freeB l o n
/-- The least node that can stand next. -/
def pick (l : List Ed) (N o : List Int) : Option Int := N.find? (pickB l o)
def ordGo (l : List Ed) (N : List Int) : Nat → List Int → Option (List Int)
  | 0, o => some o
  | k + 1, o => match pick l N o with
    | none => none
    | some n => ordGo l N k (o ++ [n])
def ordL (l : List Ed) : Option (List Int) := ordGo l (nodesL l) (nodesL l).length []
def ordR (l : List Ed) : List Int := (ordL l).getD []
def ordE (l : List Ed) : Nat := match ordL l with
  | none => 16
  | some _ => 0
theorem pick_at {l : List Ed} {N o : List Int} {k : Nat} (hk : k < N.length) (h : ∀ x ∈ N.take k, pickB l o x = false) (hx : pickB l o (ix N k) = true) : pick l N o = some (ix N k) := by
  unfold pick
  rw [List.find?_eq_some_iff_append]
  exact ⟨hx, N.take k, N.drop (k + 1), by rw [← drop_ix hk, List.take_append_drop], fun a ha => by rw [h a ha]; rfl⟩
theorem pick_none {l : List Ed} {N o : List Int} (h : ∀ x ∈ N.take N.length, pickB l o x = false) : pick l N o = none := by
  unfold pick
  rw [List.take_length] at h
  rw [List.find?_eq_none]
  intro x hx
  rw [h x hx]
  decide
theorem pickB_in {l : List Ed} {o : List Int} {n : Int} (h : n ∈ o) : pickB l o n = false := by unfold pickB; rw [hasB_true h]; rfl
theorem pickB_out {l : List Ed} {o : List Int} {n : Int} (h : n ∉ o) : pickB l o n = freeB l o n := by unfold pickB; rw [hasB_false h]; rfl
theorem nopick_step {l : List Ed} {N o : List Int} {k : Nat} (hk : k < N.length) (h : ∀ x ∈ N.take k, pickB l o x = false) (hx : pickB l o (ix N k) = false) : ∀ x ∈ N.take (k + 1), pickB l o x = false := fun x hm => by
  rcases (mem_take_succ hk).1 hm with h1 | rfl
  · exact h x h1
  · exact hx
theorem ordGo_none {l : List Ed} {N o : List Int} (h : o.length < N.length) (hp : pick l N o = none) : ordGo l N (N.length - o.length) o = none := by
  obtain ⟨m, hm⟩ : ∃ m, N.length - o.length = m + 1 := ⟨N.length - o.length - 1, by omega⟩
  rw [hm, ordGo, hp]
theorem ordGo_some {l : List Ed} {N o : List Int} {n : Int} (h : o.length < N.length) (hp : pick l N o = some n) : ordGo l N (N.length - o.length) o = ordGo l N (N.length - (o ++ [n]).length) (o ++ [n]) := by
  obtain ⟨m, hm⟩ : ∃ m, N.length - o.length = m + 1 := ⟨N.length - o.length - 1, by omega⟩
  rw [hm, ordGo, hp, List.length_append, List.length_singleton, show N.length - (o.length + 1) = m by omega]
theorem ordGo_end {l : List Ed} {N o : List Int} (h : N.length ≤ o.length) : ordGo l N (N.length - o.length) o = some o := by
  rw [show N.length - o.length = 0 by omega, ordGo]
def lenOf : Value → Nat
  | .slice _ n _ => n
  | _ => 0
/-- What Order hands back. -/
def OrdPost (W : World) (l : List Ed) (e : Ending) (w' : World) : Prop :=
  ∃ A c, e = .returned (.tuple #[.slice A (ordR l).length c, .int .i64 (ordE l : Nat)]) ∧ OwnI w' W.heap.size A c (ordR l) ∧ Below W.heap.size W w'
theorem ord_loop {W w' : World} {l : List Ed} (h : ordL l = none) (hb : Below W.heap.size W w') : OrdPost W l (.returned (.tuple #[.slice none 0 0, .int .i64 16])) w' := by
  refine ⟨none, 0, ?_, ?_, hb⟩
  · unfold ordR ordE
    rw [h]
    rfl
  · unfold ordR
    rw [h]
    exact ownI_nil _ _
theorem ord_ok {W w' : World} {l : List Ed} {A : Option Addr} {c : Nat} {o : List Int} (h : ordL l = some o) (ho : OwnI w' W.heap.size A c o) (hb : Below W.heap.size W w') : OrdPost W l (.returned (.tuple #[.slice A o.length c, .int .i64 0])) w' := by
  have e1 : ordR l = o := by unfold ordR; rw [h]; rfl
  have e2 : ordE l = 0 := by unfold ordE; rw [h]
  refine ⟨A, c, ?_, ?_, hb⟩
  · rw [e1, e2]
    rfl
  · rw [e1]
    exact ho
/-- Within a search for the next node. -/
def Srch (l : List Ed) (N o : List Int) (k : Nat) (o2 : List Int) : Prop := (o2 = o ∧ ∀ x ∈ N.take k, pickB l o x = false) ∨ ∃ n, o2 = o ++ [n] ∧ pick l N o = some n

set_option maxRecDepth 100000 in
set_option maxHeartbeats 4000000 in
theorem refOrder_any (A : Option Addr) (l : List Ed) (c : Nat) (w : World) (hp : Es w w.heap.size A l) (hmax : l.length ≤ 1000000) :
    Calls Try.prog 21 #[.slice A l.length c] w (OrdPost w l) := by
  have kN := Lib.hid (nodes_any A l c w hp hmax)
  have hNl := nodes_len l
  have hLoop := Lib.hid (fun (w' : World) => ord_loop (W := w) (w' := w') (l := l))
  have hOk := Lib.hid (fun (w' : World) (A' : Option Addr) (c' : Nat) (o : List Int) => ord_ok (W := w) (w' := w') (l := l) (A := A') (c := c') (o := o))
  have hGo : ordGo l (nodesL l) ((nodesL l).length - ([] : List Int).length) [] = ordL l := rfl
  generalize ordL l = goal at *
  generalize nodesL l = N at *
  have hG0 := Lib.hid hGo
  have hP := Lib.hid hp
  clear hp hGo
  go_enter Try.func21, Try.ntmps21
  go_wp2_with (go_at_call 43; (with_reducible refine (kN.out).mono ?_); rintro e w1 ⟨A1, c1, rfl, h1, b1⟩; (have H1 := Lib.hid h1); (have B1 := Lib.hid b1); clear h1 b1)
  go_loopw [5] (fun v wr => ∃ (A' : Option Addr) (c' : Nat) (o : List Int), v = .slice A' o.length c' ∧ o.length ≤ N.length ∧ Hid (OwnI wr w1.heap.size A' c' o) ∧ Hid (Below w1.heap.size w1 wr) ∧ Hid (ordGo l N (N.length - o.length) o = goal)) (fun v _ => N.length - lenOf v)
  case atStart => exact ⟨none, 0, [], rfl, by simp, Lib.hid (ownI_nil _ _), Lib.hid (Below.refl _ _), hG0⟩
  case round =>
    obtain ⟨A2, c2, o, rfl, hol, hO, hB, hG⟩ := hrel
    clear hG0 kN
    by_cases hlt : o.length < N.length
    · have hGn : Hid (pick l N o = none → goal = none) := Lib.hid (fun h => hG.out.symm.trans (ordGo_none hlt h))
      have hGs : Hid (∀ n, pick l N o = some n → ordGo l N (N.length - (o ++ [n]).length) (o ++ [n]) = goal) := Lib.hid (fun n h => (ordGo_some hlt h).symm.trans hG.out)
      obtain ⟨w2, rfl⟩ : ∃ w2, w2 = wr := ⟨wr, rfl⟩
      clear hG
      go_wp2
      go_loopw [5, 7] (fun v i wr => ∃ (k : Nat) (A' : Option Addr) (c' : Nat) (o2 : List Int), k ≤ N.length ∧ i = .int .i64 k ∧ v = .slice A' o2.length c' ∧ Hid (OwnI wr w1.heap.size A' c' o2) ∧ Hid (Below w1.heap.size w1 wr) ∧ Hid (Srch l N o k o2)) (fun _ i _ => N.length - (intOf i).toNat)
      case atStart => exact ⟨0, A2, c2, o, by omega, rfl, rfl, hO, hB, Lib.hid (.inl ⟨rfl, by simp⟩)⟩
      case round =>
        obtain ⟨k, A3, c3, o2, hk, rfl, rfl, hO2, hB2, hS⟩ := hrel
        have hBw := Lib.hid (B1.out.trans (hB2.out.mono B1.out.size))
        rcases hS.out with ⟨rfl, hno⟩ | ⟨n, rfl, hpk⟩
        · have hNo := Lib.hid hno
          clear hno hS hO hB
          by_cases hkn : k < N.length
          · obtain ⟨ad, hA1, hab, c0⟩ := H1.out.rd.get (cellsI_ix hkn)
            subst hA1
            have x0 := (hB2.out.cell (p := ad.add k) (by rw [block_of_add]; exact hab)).trans c0
            clear c0
            have kH := has_any A3 o2 c3 (ix N k) wr hO2.out.rd (by omega)
            by_cases hm : ix N k ∈ o2
            · have hN := Lib.hid (show Srch l N o2 (k + 1) o2 from .inl ⟨rfl, nopick_step hkn hNo.out (pickB_in hm)⟩)
              rw [hasB_true hm] at kH
              generalize ix N k = x at *
              have KH := Lib.hid kH
              clear kH hm hGn hGs hP hNo
              by_cases hk0 : k = 0
              all_goals
                first
                  | (subst hk0; have x0 : wr.cell? ad = some (.int .i64 x) := x0)
                  | skip
                go_wp2_with (go_at_call 24; (with_reducible refine (KH.out).mono ?_); rintro e wq ⟨rfl, rfl⟩)
                first
                  | exact ⟨⟨1, A3, c3, o2, by omega, rfl, rfl, hO2, hB2, hN⟩, by simp [intOf]; omega⟩
                  | exact ⟨⟨k + 1, A3, c3, o2, by omega, by go_num, rfl, hO2, hB2, hN⟩, by simp [intOf]; omega⟩
            · rw [hasB_false hm] at kH
              have kF := free_any A A3 l o2 (ix N k) c c3 wr (hP.out.up hBw.out) hO2.out.rd hmax (by omega)
              have hpb := pickB_out (l := l) hm
              rcases hf : freeB l o2 (ix N k) with _ | _
              · have hN := Lib.hid (show Srch l N o2 (k + 1) o2 from .inl ⟨rfl, nopick_step hkn hNo.out (hpb.trans hf)⟩)
                rw [hf] at kF
                generalize ix N k = x at *
                have KH := Lib.hid kH
                have KF := Lib.hid kF
                clear kH kF hm hGn hGs hP hNo hf hpb
                by_cases hk0 : k = 0
                all_goals
                  first
                    | (subst hk0; have x0 : wr.cell? ad = some (.int .i64 x) := x0)
                    | skip
                  go_wp2_with (first
                    | (go_at_call 24; (with_reducible refine (KH.out).mono ?_); rintro e wq ⟨rfl, rfl⟩)
                    | (go_at_call 44; (with_reducible refine (KF.out).mono ?_); rintro e wq ⟨rfl, rfl⟩))
                  first
                    | exact ⟨⟨1, A3, c3, o2, by omega, rfl, rfl, hO2, hB2, hN⟩, by simp [intOf]; omega⟩
                    | exact ⟨⟨k + 1, A3, c3, o2, by omega, by go_num, rfl, hO2, hB2, hN⟩, by simp [intOf]; omega⟩
              · have hN := Lib.hid (show Srch l N o2 (k + 1) (o2 ++ [ix N k]) from .inr ⟨_, rfl, pick_at hkn hNo.out (hpb.trans hf)⟩)
                rw [hf] at kF
                generalize ix N k = x at *
                have KH := Lib.hid kH
                have KF := Lib.hid kF
                clear kH kF hm hGn hGs hP hNo hf hpb
                by_cases hk0 : k = 0
                all_goals
                  first
                    | (subst hk0; have x0 : wr.cell? ad = some (.int .i64 x) := x0)
                    | skip
                  go_wp2_with (first
                    | (go_at_call 24; (with_reducible refine (KH.out).mono ?_); rintro e wq ⟨rfl, rfl⟩)
                    | (go_at_call 44; (with_reducible refine (KF.out).mono ?_); rintro e wq ⟨rfl, rfl⟩)
                    | (at_builtin; refine wpList_app_int rfl (.tmp 45) (.tmp 50) rfl rfl rfl hO2.out hB2.out (Nat.le_refl _) (by omega) ?_; intro A4 c4 w4 h4 d4; (have H4 := Lib.hid h4); (have D4 := Lib.hid d4); clear h4 d4))
                  first
                    | exact ⟨⟨1, A4, c4, _, by omega, rfl, by rw [List.length_append]; rfl, H4, D4, hN⟩, by simp [intOf]; omega⟩
                    | exact ⟨⟨k + 1, A4, c4, _, by omega, by go_num, by rw [List.length_append]; rfl, H4, D4, hN⟩, by simp [intOf]; omega⟩
          · obtain rfl : k = N.length := by omega
            have hE := Lib.hid (hLoop.out wr (hGn.out (pick_none hNo.out)) hBw.out)
            clear hGn hGs hP hNo
            go_wp2
            go_ret2
            exact hE.out
        · have hN := Lib.hid (hGs.out n hpk)
          have hlen : (o ++ [n]).length = o.length + 1 := by simp
          have hle : (o ++ [n]).length ≤ N.length := by omega
          generalize o ++ [n] = o3 at *
          have hne : ¬ (o3.length : Int) = (o.length : Int) := by omega
          have hne2 := beq_eq_false_iff_ne.2 hne
          have hLn := Lib.hid hlen
          clear hpk hS hO hB hGn hGs hP hlen
          by_cases hkn : k < N.length
          · go_wp2
            exact ⟨⟨A3, c3, o3, rfl, hle, hO2, hB2, hN⟩, by have := hLn.out; simp [lenOf]; omega⟩
          · go_wp2
            exact ⟨⟨A3, c3, o3, rfl, hle, hO2, hB2, hN⟩, by have := hLn.out; simp [lenOf]; omega⟩
    · have hE := Lib.hid (hOk.out wr A2 c2 o (by rw [← hG.out]; exact ordGo_end (by omega)) (hO.out.less B1.out.size) (B1.out.trans (hB.out.mono B1.out.size)))
      clear hG hP
      go_wp2
      go_ret2
      exact hE.out
end Go.Proofs.Ytlaklfiodmnocaa
