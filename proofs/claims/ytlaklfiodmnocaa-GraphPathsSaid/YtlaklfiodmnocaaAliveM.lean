/- The examples of the chapter, reckoned. Plain mathematics. -/
import Derived.Test.YtlaklfiodmnocaaGr
namespace Go.Proofs.Ytlaklfiodmnocaa

/-! ### A table of paths that is seen to be the best one -/
def look (tab : List (Int × List Ed)) (x : Int) : Option (List Ed) := (tab.find? fun q => q.1 == x).map fun q => q.2
def labT (tab : List (Int × List Ed)) (x : Int) : Option (Int × Nat) := (look tab x).map fun p => (cst p, p.length)
def pthB : List Ed → Int → Int → Bool
  | [], a, b => a == b
  | e :: p, a, b => e.frm == a && pthB p e.to b
theorem pthB_of : ∀ {p : List Ed} {a b : Int}, pthB p a b = true → Pth p a b
  | [], _, _, h => beq_iff_eq.1 h
  | e :: p, a, b, h => by
    rw [pthB, Bool.and_eq_true] at h
    exact ⟨beq_iff_eq.1 h.1, pthB_of h.2⟩
def edgeB (tab : List (Int × List Ed)) (e : Ed) : Bool := match labT tab e.to with
  | none => true
  | some (c, k) => match labT tab e.frm with
    | none => false
    | some (d, j) => decide (d < c + e.cost ∨ d = c + e.cost ∧ j ≤ k + 1)
def chk (l : List Ed) (t : Int) (tab : List (Int × List Ed)) : Bool :=
  decide (labT tab t = some (0, 0)) && tab.all (fun q => q.2.all (fun e => decide (e ∈ l)) && pthB q.2 q.1 t) && l.all (edgeB tab)
theorem chk_lab {l : List Ed} {t : Int} {tab : List (Int × List Ed)} (h : chk l t tab = true) (x : Int) : (∀ c k, labT tab x = some (c, k) ↔ Best l t x c k) ∧ (labT tab x = none ↔ ¬ Rch l x t) := by
  unfold chk at h
  rw [Bool.and_eq_true, Bool.and_eq_true, decide_eq_true_eq, List.all_eq_true, List.all_eq_true] at h
  obtain ⟨⟨h1, h2⟩, h3⟩ := h
  refine labels_are (lab := labT tab) ⟨0, 0, h1, .inr ⟨rfl, Nat.le_refl _⟩⟩ (fun y c k hy => ?_) (fun e he c k hy => ?_) x
  · unfold labT look at hy
    rcases hf : tab.find? (fun q => q.1 == y) with _ | q
    · rw [hf] at hy; cases hy
    · rw [hf] at hy
      injection hy with hy
      injection hy with e1 e2
      have hm := List.mem_of_find?_eq_some hf
      have hq0 := List.find?_some hf
      have hq := beq_iff_eq.1 hq0
      have h4 := h2 q hm
      rw [Bool.and_eq_true, List.all_eq_true] at h4
      exact ⟨q.2, fun e he => of_decide_eq_true (h4.1 e he), by rw [← hq]; exact pthB_of h4.2, e1, e2⟩
  · have h4 := h3 e he
    unfold edgeB at h4
    rw [hy] at h4
    simp only at h4
    rcases hl : labT tab e.frm with _ | ⟨d, j⟩
    · rw [hl] at h4; cases h4
    · rw [hl] at h4
      have h5 : d < c + e.cost ∨ d = c + e.cost ∧ j ≤ k + 1 := of_decide_eq_true h4
      exact ⟨d, j, rfl, h5⟩
def nextC (l : List Ed) (tab : List (Int × List Ed)) (x c : Int) (k : Nat) : Option Ed := l.find? fun e => decide (e.frm = x) && decide (labT tab e.to = some (c - e.cost, k))
def pathC (l : List Ed) (tab : List (Int × List Ed)) : Nat → Int → Int → List Ed
  | 0, _, _ => []
  | k + 1, x, c => match nextC l tab x c k with
    | some e => e :: pathC l tab k e.to (c - e.cost)
    | none => []
theorem next_c {l : List Ed} {t : Int} {tab : List (Int × List Ed)} (h : chk l t tab = true) (x c : Int) (k : Nat) : nextE l t x c k = nextC l tab x c k := by
  unfold nextE nextC
  congr 1
  funext e
  congr 1
  have h1 := (chk_lab h e.to).1 (c - e.cost) k
  cases hb : isBest l t e.to (c - e.cost) k with
  | true => exact (decide_eq_true (h1.2 (isBest_iff.1 hb))).symm
  | false => exact (decide_eq_false fun h2 => by rw [isBest_iff.2 (h1.1 h2)] at hb; cases hb).symm
theorem path_c {l : List Ed} {t : Int} {tab : List (Int × List Ed)} (h : chk l t tab = true) : ∀ (k : Nat) (x c : Int), path l t k x c = pathC l tab k x c
  | 0, _, _ => rfl
  | k + 1, x, c => by
    rw [path, pathC, next_c h]
    cases nextC l tab x c k with
    | none => rfl
    | some e =>
      show e :: path l t k e.to (c - e.cost) = e :: pathC l tab k e.to (c - e.cost)
      rw [path_c h k]
theorem sh_of {l : List Ed} {a b c : Int} {k : Nat} {tab : List (Int × List Ed)} (h : chk l b tab = true) (hl : labT tab a = some (c, k)) : shP l a b = (pathC l tab k a c).map Ed.id ∧ shC l a b = c ∧ shK l a b = true := by
  obtain ⟨h1, h2, h3⟩ := sh_some (((chk_lab h a).1 c k).1 hl)
  exact ⟨by rw [h1, path_c h], h2, h3⟩
theorem sh_not {l : List Ed} {a b : Int} {tab : List (Int × List Ed)} (h : chk l b tab = true) (hl : labT tab a = none) : shP l a b = [] ∧ shC l a b = 0 ∧ shK l a b = false := sh_none ((chk_lab h a).2.1 hl)

/-! ### The chapter's graph -/
def smp : List Ed := [⟨11, 1, 2, 5⟩, ⟨12, 2, 3, 5⟩, ⟨13, 1, 3, 10⟩, ⟨14, 3, 4, 1⟩, ⟨15, 5, 1, 0⟩]
def smpL : List Ed := smp ++ [⟨16, 4, 2, 1⟩]
def smpD : List Ed := smp ++ [⟨11, 1, 2, 5⟩]
theorem smp_right : rightN smp = 0 := by decide +kernel
theorem smpL_right : rightN smpL = 0 := by decide +kernel
theorem smpD_right : rightN smpD = 7 := by decide +kernel
theorem smp_grph : Grph smp := right_iff.1 smp_right
theorem smpL_grph : Grph smpL := right_iff.1 smpL_right
theorem smp_ord : ordR smp = [5, 1, 2, 3, 4] ∧ ordE smp = 0 := by decide +kernel
theorem smpL_ord : ordR smpL = [] ∧ ordE smpL = 16 := by decide +kernel
def tab4 : List (Int × List Ed) := [(4, []), (3, [⟨14, 3, 4, 1⟩]), (2, [⟨12, 2, 3, 5⟩, ⟨14, 3, 4, 1⟩]), (1, [⟨13, 1, 3, 10⟩, ⟨14, 3, 4, 1⟩]), (5, [⟨15, 5, 1, 0⟩, ⟨13, 1, 3, 10⟩, ⟨14, 3, 4, 1⟩])]
theorem sh_14 : shP smp 1 4 = [13, 14] ∧ shC smp 1 4 = 11 ∧ shK smp 1 4 = true := by
  obtain ⟨h1, h2, h3⟩ := sh_of (l := smp) (a := 1) (b := 4) (c := 11) (k := 2) (tab := tab4) (by decide +kernel) (by decide +kernel)
  exact ⟨h1.trans (by decide +kernel), h2, h3⟩
def tab1 : List (Int × List Ed) := [(1, []), (5, [⟨15, 5, 1, 0⟩])]
theorem sh_41 : shP smp 4 1 = [] ∧ shC smp 4 1 = 0 ∧ shK smp 4 1 = false := sh_not (tab := tab1) (by decide +kernel) (by decide +kernel)
def smpW : List Ed := [⟨11, 1, 2, 5⟩, ⟨12, 2, 3, 5⟩, ⟨14, 3, 4, 1⟩, ⟨15, 5, 1, 0⟩]
theorem wo_smp : wo smp [13] = smpW := by decide +kernel
theorem smpW_grph : Grph smpW := right_iff.1 (by decide +kernel)
def tab4w : List (Int × List Ed) := [(4, []), (3, [⟨14, 3, 4, 1⟩]), (2, [⟨12, 2, 3, 5⟩, ⟨14, 3, 4, 1⟩]), (1, [⟨11, 1, 2, 5⟩, ⟨12, 2, 3, 5⟩, ⟨14, 3, 4, 1⟩]), (5, [⟨15, 5, 1, 0⟩, ⟨11, 1, 2, 5⟩, ⟨12, 2, 3, 5⟩, ⟨14, 3, 4, 1⟩])]
theorem sh_14w : shP smpW 1 4 = [11, 12, 14] ∧ shC smpW 1 4 = 11 ∧ shK smpW 1 4 = true := by
  obtain ⟨h1, h2, h3⟩ := sh_of (l := smpW) (a := 1) (b := 4) (c := 11) (k := 3) (tab := tab4w) (by decide +kernel) (by decide +kernel)
  exact ⟨h1.trans (by decide +kernel), h2, h3⟩
/-- What is reached, step by step from the numbers of a list. -/
def grow (l : List Ed) : Nat → List Int → List Int
  | 0, o => o
  | k + 1, o => grow l k (l.foldl (fun o e => if e.frm ∈ o then ins e.to o else o) o)
theorem found_fold {l : List Ed} {f : List Int} : ∀ {m : List Ed} {o : List Int}, (∀ e ∈ m, e ∈ l) → Found l f o → Found l f (m.foldl (fun o e => if e.frm ∈ o then ins e.to o else o) o)
  | [], _, _, h => h
  | e :: m, o, hm, h => by
    rw [List.foldl_cons]
    refine found_fold (fun x hx => hm x (List.mem_cons_of_mem _ hx)) ?_
    split
    · exact found_step h (hm e (List.mem_cons_self ..)) ‹_›
    · exact h
theorem found_grow {l : List Ed} {f : List Int} : ∀ (k : Nat) {o : List Int}, Found l f o → Found l f (grow l k o)
  | 0, _, h => h
  | k + 1, _, h => found_grow k (found_fold (fun _ he => he) h)
def closedB (l : List Ed) (o : List Int) : Bool := l.all fun e => decide (e.frm ∈ o → e.to ∈ o)
theorem reach_is {l : List Ed} {f o : List Int} (k : Nat) (h : grow l k (sortU f) = o) (hc : closedB l o = true) : reachL l f = o := by
  have hF := found_grow k (found_start l f)
  rw [h] at hF
  refine (found_end hF fun e he => ?_).symm
  unfold closedB at hc
  rw [List.all_eq_true] at hc
  exact of_decide_eq_true (hc e he)
theorem reach_2 : reachL smp [2] = [2, 3, 4] := reach_is 3 (by decide +kernel) (by decide +kernel)
theorem back_2 : backL smp [2] = [1, 2, 5] := reach_is 3 (by decide +kernel) (by decide +kernel)
theorem reach_9 : reachL smp [9] = [9] := reach_is 1 (by decide +kernel) (by decide +kernel)
end Go.Proofs.Ytlaklfiodmnocaa
