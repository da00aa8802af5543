/- What the laws share: two equal lists; how long what is reached can be. -/
import Derived.Test.YtlaklfiodmnocaaAlive
namespace Go.Proofs.Ytlaklfiodmnocaa
open Go.RowKit

theorem same_eq {A B : Option Addr} {l : List Int} {c d : Nat} {w : World} (hl : Rd w w.heap.size A c (cellsI l)) (hm : Rd w w.heap.size B d (cellsI l)) (hn : l.length ≤ 1000) :
    Calls Try.prog 15 #[.slice A l.length c, .slice B l.length d] w fun e w' => e = .returned (.bool true) ∧ Below w.heap.size w w' := by
  have k := same_any A B l l c d w hl hm (by omega)
  rw [eqL_true rfl] at k
  exact k
theorem reach_len (l : List Ed) (f : List Int) : (reachL l f).length ≤ f.length + l.length := found_len ⟨reach_inc l f, fun _ h => mem_reach.1 h, fun x h => mem_reach.2 ⟨x, h, .refl x⟩⟩
theorem back_len (l : List Ed) (f : List Int) : (backL l f).length ≤ f.length + l.length := by
  have := reach_len (l.map turn) f
  rwa [List.length_map] at this
theorem ord_len (l : List Ed) : (ordR l).length ≤ 2 * l.length := by
  unfold ordR
  rcases h : ordL l with _ | r
  · simp
  · have h1 := (ord_facts h).2.2.1
    have h2 := nodes_len l
    show r.length ≤ _
    omega
/-- A best path has at most one edge for each node. -/
theorem best_short {l : List Ed} (hg : Grph l) {t x c : Int} {k : Nat} (h : Best l t x c k) : k ≤ 400 := by
  -- the best path leaves no node twice: by the labels
  obtain ⟨⟨p, p1, p2, p3, p4⟩, hmin⟩ := h
  rcases Classical.em (p.map Ed.frm).Nodup with hn | hn
  · have := nodup_len hn (b := nodesL l) fun y hy => by
      obtain ⟨e, he, rfl⟩ := List.mem_map.1 hy
      exact mem_nodes.2 ⟨e, p1 e he, .inl rfl⟩
    rw [List.length_map, p4] at this
    have h2 := nodes_len l
    have h3 := hg.1
    omega
  · exfalso
    -- a node left twice: the part between can be cut out
    have key : ∀ (q : List Ed) (a : Int), Sub q l → Pth q a t → ¬ (q.map Ed.frm).Nodup → ∃ r, Sub r l ∧ Pth r a t ∧ r.length < q.length ∧ cst r ≤ cst q := by
      intro q
      induction q with
      | nil => intro a _ _ h; exact absurd List.nodup_nil h
      | cons e q ih =>
        intro a hs hp hnd
        obtain ⟨h1, h2⟩ := sub_cons.1 hs
        rw [List.map_cons, List.nodup_cons] at hnd
        by_cases hm : e.frm ∈ q.map Ed.frm
        · obtain ⟨f, hf, hfe⟩ := List.mem_map.1 hm
          obtain ⟨u, v, rfl⟩ := List.append_of_mem hf
          have hcut : ∀ (u : List Ed) (b : Int), Pth (u ++ f :: v) b t → Pth (f :: v) f.frm t := by
            intro u
            induction u with
            | nil => intro b h; exact ⟨rfl, h.2⟩
            | cons g u ihu => intro b h; exact ihu _ h.2
          have hr := hcut u _ hp.2
          refine ⟨f :: v, fun x hx => h2 x (List.mem_append_right _ hx), ?_, by simp only [List.length_cons, List.length_append]; omega, ?_⟩
          · rw [← hp.1, ← hfe]
            exact hr
          · have hu : 0 ≤ cst (e :: u) := cst_nonneg (fun e he => (hg.2.1 e he).2.2.2.2.1) (fun x hx => hs x (by
              rcases List.mem_cons.1 hx with rfl | hx
              · exact List.mem_cons_self ..
              · exact List.mem_cons_of_mem _ (List.mem_append_left _ hx)))
            rw [show e :: (u ++ f :: v) = (e :: u) ++ (f :: v) from rfl, cst_append]
            omega
        · have hnq : ¬ (q.map Ed.frm).Nodup := fun h => hnd ⟨hm, h⟩
          obtain ⟨r, r1, r2, r3, r4⟩ := ih e.to h2 hp.2 hnq
          exact ⟨e :: r, sub_cons.2 ⟨h1, r1⟩, ⟨hp.1, r2⟩, by simpa using r3, by rw [cst, cst]; omega⟩
    obtain ⟨r, r1, r2, r3, r4⟩ := key p x p1 p2 hn
    have := hmin r r1 r2
    unfold le2 at this
    omega
theorem shP_len {l : List Ed} (hg : Grph l) (a b : Int) : (shP l a b).length ≤ 400 := by
  unfold shP
  rcases h : bestOf l b a with _ | ⟨c, k⟩
  · simp
  · have hb := bestOf_of h
    show ((path l b k a c).map Ed.id).length ≤ 400
    rw [List.length_map, (path_facts k hb).2.2.2]
    exact best_short hg hb
end Go.Proofs.Ytlaklfiodmnocaa
