/- Slices of bytes and of ints in memory: what they read as; rows of the call's own; what an append takes; the string of a slice of bytes. -/
import Derived.Test.YtelmkihndmkbkaaMix
import Derived.Test.YtelmkihndmkbkaaProg
import Derived.Laws.AppendOwnNone
import Derived.Laws.BytesString
import Derived.Lib.AppendStr
import Derived.Deep.AppendLies
import Derived.OwnWalk
import Derived.Below
import Derived.Deep.Draws
import Derived.WalkKit
import Derived.Lib.Hide
namespace Go.Proofs.Ytelmkihndmkbkaa
open Go.RowKit

theorem block_of_add (a : Addr) (n : Nat) : (a.add n).block = a.block := by unfold Addr.add; split <;> rfl
theorem add_of_add (a : Addr) (i j : Nat) : (a.add i).add j = a.add (i + j) := by
  unfold Addr.add
  by_cases hi : i = 0 <;> by_cases hj : j = 0 <;> simp [hi, hj, Nat.add_assoc]
theorem add_pos (g j : Nat) : (⟨g, 0, none⟩ : Addr).add j = ⟨g, j, none⟩ := by unfold Addr.add; split <;> simp_all
theorem below_drewN {B : Nat} {a w : World} (h : Below B a w) (n : Nat) : Below B a (w.drewN n) := ⟨h.os, h.tape, h.output, h.size, h.block⟩
theorem own_shape {w : World} {base e size n : Nat} {v : Value} {xs : List Value} (h : w.ownsRow base e size v n xs) : ∃ A cap, v = .slice A n cap ∧ n ≤ cap ∧ (A = none → cap = 0) := by
  rcases h.2 with ⟨rfl, rfl⟩ | ⟨g, cap, cur, rfl, _, _, h1, _⟩
  · exact ⟨none, 0, rfl, Nat.le_refl _, fun _ => rfl⟩
  · exact ⟨_, cap, rfl, h1, fun h => by cases h⟩
theorem own_addr {w : World} {base e size n cap : Nat} {A : Option Addr} {xs : List Value} (h : w.ownsRow base e size (.slice A n cap) n xs) (hn : 0 < n) : ∃ g, A = some ⟨g, 0, none⟩ ∧ base ≤ g ∧ g < w.heap.size := by
  rcases h.2 with ⟨_, rfl⟩ | ⟨g, cap, cur, hv, hb, hg, _⟩
  · omega
  · injection hv with h1
    exact ⟨g, h1, hb, (Array.getElem?_eq_some_iff.1 hg).1⟩
/-- What is owned stays where nothing below the heap's size turns. -/
theorem own_below {w w' : World} {base e size n : Nat} {v : Value} {xs : List Value} (h : w.ownsRow base e size v n xs) (hb : Below w.heap.size w w') : w'.ownsRow base e size v n xs :=
  h.kept (row := none) ⟨hb.os, hb.tape, hb.output, hb.size, fun k hk _ => hb.block k hk⟩ (by cases hv : v.ownBlock <;> simp)
theorem own_drewN {w : World} {base e size n : Nat} {v : Value} {xs : List Value} (h : w.ownsRow base e size v n xs) (k : Nat) : (w.drewN k).ownsRow base e size v n xs := h
theorem own_less {w : World} {base base' e size n : Nat} {v : Value} {xs : List Value} (h : w.ownsRow base e size v n xs) (hb : base' ≤ base) : w.ownsRow base' e size v n xs := by
  refine ⟨h.1, ?_⟩
  rcases h.2 with h1 | ⟨g, cap, cur, h1, h2, h3⟩
  · exact .inl h1
  · exact .inr ⟨g, cap, cur, h1, by omega, h3⟩

/-! ### Cells -/
def cells8 (l : List UInt8) : List Value := l.map fun c => Value.int .u8 (c.toNat : Int)
theorem cells8_len (l : List UInt8) : (cells8 l).length = l.length := by simp [cells8]
theorem cells8_append (a b : List UInt8) : cells8 (a ++ b) = cells8 a ++ cells8 b := by simp [cells8]
theorem cells8_at {l : List UInt8} {i : Nat} (h : i < l.length) : (cells8 l)[i]? = some (.int .u8 (l[i].toNat : Int)) := by simp [cells8, h]
/-- Byte i. -/
def bx (l : List UInt8) (i : Nat) : Nat := (l[i]?.getD 0).toNat
theorem bx_at {l : List UInt8} {i : Nat} (h : i < l.length) : bx l i = l[i].toNat := by unfold bx; rw [List.getElem?_eq_getElem h]; rfl
theorem bx_lt (l : List UInt8) (i : Nat) : bx l i < 256 := UInt8.toNat_lt _
theorem cells8_bx {l : List UInt8} {i : Nat} (h : i < l.length) : (cells8 l)[i]? = some (.int .u8 (bx l i : Nat)) := by rw [cells8_at h, bx_at h]
theorem cells8_one (l : List UInt8) : ∀ u ∈ cells8 l, u.oneCell' = true := fun u hu => by
  obtain ⟨_, _, rfl⟩ := List.mem_map.1 hu
  rfl
theorem strCells_eq (s : ByteArray) : Lib.strCells s = cells8 s.data.toList := rfl
def cellsI (l : List Int) : List Value := l.map fun n => Value.int .i64 n
theorem cellsI_len (l : List Int) : (cellsI l).length = l.length := by simp [cellsI]
theorem cellsI_append (a b : List Int) : cellsI (a ++ b) = cellsI a ++ cellsI b := by simp [cellsI]
theorem cellsI_at {l : List Int} {i : Nat} (h : i < l.length) : (cellsI l)[i]? = some (.int .i64 l[i]) := by simp [cellsI, h]
theorem cellsI_one (l : List Int) : ∀ u ∈ cellsI l, u.oneCell' = true := fun u hu => by
  obtain ⟨_, _, rfl⟩ := List.mem_map.1 hu
  rfl

/-- A slice that reads as the cells xs, below block B; where it is nil its capacity is 0. -/
def Rd (w : World) (B : Nat) (A : Option Addr) (c : Nat) (xs : List Value) : Prop :=
  xs.length ≤ c ∧ (A = none → c = 0) ∧ (0 < xs.length → ∃ ad, A = some ad ∧ ad.block < B ∧ ∀ i u, xs[i]? = some u → w.cell? (ad.add i) = some u)
section
variable {w w' : World} {B B' c : Nat} {A : Option Addr} {xs : List Value}
theorem Rd.keep (h : Rd w B A c xs) (hk : ∀ p : Addr, p.block < B → w'.cell? p = w.cell? p) : Rd w' B A c xs :=
  ⟨h.1, h.2.1, fun hn => by
    obtain ⟨ad, e, hl, hc⟩ := h.2.2 hn
    exact ⟨ad, e, hl, fun i u hu => (hk _ (by rw [block_of_add]; exact hl)).trans (hc i u hu)⟩⟩
theorem Rd.below (h : Rd w B A c xs) (hb : Below B w w') : Rd w' B A c xs := h.keep fun _ hp => hb.cell hp
theorem Rd.more (h : Rd w B A c xs) (hB : B ≤ B') : Rd w B' A c xs :=
  ⟨h.1, h.2.1, fun hn => by
    obtain ⟨ad, e, hl, hc⟩ := h.2.2 hn
    exact ⟨ad, e, by omega, hc⟩⟩
theorem Rd.none_ : Rd w B none 0 [] := ⟨Nat.le_refl _, fun _ => rfl, fun h => absurd h (by simp)⟩
theorem Rd.get (h : Rd w B A c xs) {k : Nat} {u : Value} (hu : xs[k]? = some u) : ∃ ad, A = some ad ∧ ad.block < B ∧ w.cell? (ad.add k) = some u := by
  obtain ⟨ad, e, hl, hc⟩ := h.2.2 (by have := (List.getElem?_eq_some_iff.1 hu).1; omega)
  exact ⟨ad, e, hl, hc k u hu⟩
/-- b[:k]. -/
theorem Rd.take (h : Rd w B A c xs) (k : Nat) : Rd w B A c (xs.take k) :=
  ⟨by rw [List.length_take]; have := h.1; omega, h.2.1, fun hn => by
    obtain ⟨ad, e, hl, hc⟩ := h.2.2 (by rw [List.length_take] at hn; omega)
    refine ⟨ad, e, hl, fun i u hu => hc i u ?_⟩
    rw [List.getElem?_take] at hu
    split at hu
    · exact hu
    · cases hu⟩
/-- b[k:]. -/
theorem Rd.drop (h : Rd w B A c xs) {k : Nat} (hk : k ≤ xs.length) : Rd w B (if c = k then A else A.map (·.add k)) (c - k) (xs.drop k) := by
  have hc := h.1
  refine ⟨by rw [List.length_drop]; omega, fun hn => ?_, fun hn => ?_⟩
  · split at hn
    · rename_i he; omega
    · cases A with
      | none => have := h.2.1 rfl; omega
      | some a => cases hn
  · rw [List.length_drop] at hn
    obtain ⟨ad, rfl, hl, hcell⟩ := h.2.2 (by omega)
    rw [if_neg (by omega)]
    refine ⟨ad.add k, rfl, by rw [block_of_add]; exact hl, fun i u hu => ?_⟩
    rw [add_of_add]
    exact hcell _ u (by rw [← hu, List.getElem?_drop])
theorem Rd.of_own {base e n : Nat} (h : w.ownsRow base e 1 (.slice A n c) n xs) : Rd w w.heap.size A c xs := by
  have hl := h.1
  obtain ⟨A', c', hv, h1, h2⟩ := own_shape h
  injection hv with e1 e2 e3
  subst e1 e3
  refine ⟨by omega, h2, fun hn => ?_⟩
  obtain ⟨g, rfl, hg, hlt⟩ := own_addr h (by omega)
  exact ⟨_, rfl, hlt, h.cells (g := g) rfl⟩
end

/-- What an append takes: nil, or cells at an address. -/
def Feed (w : World) (x : Value) (m : Nat) (news : List Value) : Prop :=
  news.length = m ∧ ((x = .slice none 0 0 ∧ m = 0) ∨ ∃ ad c, x = .slice (some ad) m c ∧ ∀ j u, news[j]? = some u → w.cell? (ad.add j) = some u)
theorem Rd.feed {w : World} {B c : Nat} {A : Option Addr} {xs : List Value} (h : Rd w B A c xs) : Feed w (.slice A xs.length c) xs.length xs := by
  refine ⟨rfl, ?_⟩
  cases A with
  | none =>
    have h0 := h.2.1 rfl
    have h1 := h.1
    have h2 : xs.length = 0 := by omega
    exact .inl ⟨by rw [h0, h2], h2⟩
  | some ad =>
    refine .inr ⟨ad, c, rfl, fun j u hu => ?_⟩
    obtain ⟨ad', h1, _, h2⟩ := h.get hu
    injection h1 with h1
    subst h1
    exact h2
theorem feed_new {w : World} {cs : Array Value} {T : TypeId} {n : Nat} (hn : cs.size = n) : Feed (w.alloc (.cells cs T)) (.slice (some ⟨w.heap.size, 0, none⟩) n n) n cs.toList :=
  ⟨by simpa using hn, .inr ⟨_, _, rfl, World.news_of_block (heap_alloc_new w _)⟩⟩
theorem wpList_append_feed {P : Program} (w : World) {ops : Array Oper} {rest : List Oper} {o : Oper} {a : Act} {Q : Exit → Act → World → Prop} (hgd : o.guard = none) (s x : Operand) (t : TypeId)
    (ho : o.op = .call { callee := .builtin .append, args := #[s, x], argTypes := #[t, t] })
    (base : Nat) (e : TypeId) (i : TypeInfo) (z : Value) (bytes : Nat) (ht : P.underlying t = some (.slice e)) (hi : P.info? e = some i) (hz : i.zero = some z)
    (hsize : i.size = 1) (hby : i.bytes = bytes) (hzs : z.cells.size = 1)
    (v : Value) (n : Nat) (xs : List Value) (hs : a.eval s = v) (hown : w.ownsRow base e 1 v n xs)
    (v2 : Value) (m : Nat) (news : List Value) (hx : a.eval x = v2) (hsrc : Feed w v2 m news) (h1 : ∀ u ∈ news, u.oneCell' = true)
    (h63 : n + m ≤ maxLen) (hbytes : (n + m) * bytes ≤ 140737488355328) (hbase : base ≤ w.heap.size)
    (h : ∀ A' c' w', w'.ownsRow base e 1 (.slice A' (n + m) c') (n + m) (xs ++ news) → w.grownBy w' v.ownBlock → wpList P ops Q rest (a.put o.dst (.slice A' (n + m) c')) w') : wpList P ops Q (o :: rest) a w := by
  have fin : ∀ v' w', w'.ownsRow base e 1 v' (n + m) (xs ++ news) → w.grownBy w' v.ownBlock → wpList P ops Q rest (a.put o.dst v') w' := fun v' w' h1 h2 => by
    obtain ⟨A', c', rfl, _⟩ := own_shape h1
    exact h A' c' w' h1 h2
  obtain ⟨hl, hc⟩ := hsrc
  rcases hc with ⟨rfl, rfl⟩ | ⟨ad, c, rfl, hc⟩
  · obtain rfl : news = [] := List.eq_nil_of_length_eq_zero hl
    exact wpList_append_own_none hgd s x t ho base e i 1 ht hi v n xs hs hown hx (fin v w (by simpa using hown) (World.grownBy.refl w _))
  · exact wpList_append_own w hgd s x t ho base e i z 1 bytes ht hi hz hsize hby hzs (by decide) v n xs hs hown ad m c news hx (by omega) hc h1 h63 hbytes hbase (fun v' w' a b _ => fin v' w' a b)
theorem below_grown {B base e n : Nat} {W w w' : World} {v : Value} {xs : List Value} (h : Below B W w) (ho : w.ownsRow base e 1 v n xs) (hg : w.grownBy w' v.ownBlock) (hb : B ≤ base) (hB : B ≤ w.heap.size) : Below B W w' :=
  h.grown hg hB (fun k hk => Nat.le_trans hb (ho.lt k hk).1)

/-! ### Bytes -/
/-- The string of the bytes. -/
def strOf (l : List UInt8) : ByteArray := ⟨l.toArray⟩
theorem strOf_inj {a b : List UInt8} (h : strOf a = strOf b) : a = b := by
  have := congrArg (fun s : ByteArray => s.data.toList) h
  simpa [strOf] using this
theorem strOf_data (s : ByteArray) : strOf s.data.toList = s := by cases s; rfl
theorem foldl_bytes : ∀ (l : List UInt8) (s : ByteArray), (l.map fun c => (c.toNat : Int)).foldl (fun r n => r.push (UInt8.ofNat n.toNat)) s = ⟨s.data ++ l.toArray⟩
  | [], s => by simp
  | c :: l, s => by
    rw [List.map_cons, List.foldl_cons, foldl_bytes l]
    simp [ByteArray.push]
theorem convert_rd {P : Program} {w : World} {B c : Nat} {A : Option Addr} {l : List UInt8} (h : Rd w B A c (cells8 l)) (src dst e : TypeId) (hs : P.underlying src = some (.slice e)) (he : P.underlying e = some (.int .u8)) (hd : P.underlying dst = some .string) :
    (convert src dst (.slice A l.length c)).run P w = .ok (.string (strOf l)) w := by
  rw [run_convert_bytes_string w src dst e A l.length c hs he hd]
  cases A with
  | none =>
    have h0 := h.2.1 rfl
    have h1 := h.1
    obtain rfl : l = [] := List.eq_nil_of_length_eq_zero (by rw [cells8_len] at h1; omega)
    simp [Conv.bytesToString, strOf]
    rfl
  | some ad =>
    have hcell : ∀ j v, (cells8 l)[j]? = some v → w.cell? (ad.add j) = some v := fun j u hu => by
      obtain ⟨ad', h1, _, h2⟩ := h.get hu
      injection h1 with h1
      subst h1
      exact h2
    have hl := run_loadCells_list (P := P) w ad (cells8 l) hcell
    rw [cells8_len] at hl
    have hm : cells8 l = (l.map fun c => (c.toNat : Int)).map (Value.int .u8) := by simp [cells8]
    rw [hm] at hl
    rw [run_bytesToString w ad l.length c _ hl, foldl_bytes]
    simp [strOf, ByteArray.empty, ByteArray.emptyWithCapacity]
    rfl
def eqB (a b : List UInt8) : Bool := decide (a = b)
theorem eqB_true {a b : List UInt8} (h : a = b) : eqB a b = true := decide_eq_true h
theorem eqB_false {a b : List UInt8} (h : a ≠ b) : eqB a b = false := decide_eq_false h

theorem info_u8 : (Try.prog.info? 5).map (fun i => (i.zero, i.size, i.bytes)) = some (some (.int .u8 0), 1, 1) := by kernel_rfl
theorem info_i64 : (Try.prog.info? 3).map (fun i => (i.zero, i.size, i.bytes)) = some (some (.int .i64 0), 1, 8) := by kernel_rfl

/-- Bytes of the call's own, in a row from block base on; below base nothing turns. -/
def Made (W : World) (base : Nat) (l : List UInt8) (e : Ending) (w' : World) : Prop :=
  ∃ A c, e = .returned (.slice A l.length c) ∧ w'.ownsRow base 5 1 (.slice A l.length c) l.length (cells8 l) ∧ Below base W w'
/-- The same of ints. -/
def MadeI (W : World) (base : Nat) (l : List Int) (e : Ending) (w' : World) : Prop :=
  ∃ A c, e = .returned (.slice A l.length c) ∧ w'.ownsRow base 3 1 (.slice A l.length c) l.length (cellsI l) ∧ Below base W w'
end Go.Proofs.Ytelmkihndmkbkaa
