/-
  A captured variable that gathers elements, and the closures of utf that append to one or count.
-/
import Derived.Test.YtedgnlgjmnccgabGreatDoorEach
import Derived.OwnWalk
import Derived.Lib.QuoteBits
namespace Go.Proofs.YtedgnlgjmnccgabGreatDoor
open Go.RowKit

theorem own_below {w w' : World} {B e size n : Nat} {v : Value} {xs : List Value} (h : w.ownsRow B e size v n xs) (hb : Below w.heap.size w w') : w'.ownsRow B e size v n xs := by
  refine ⟨h.1, ?_⟩
  rcases h.2 with hn | ⟨g, cap, cur, rfl, hg, hgg, rest⟩
  · exact .inl hn
  · exact .inr ⟨g, cap, cur, rfl, hg, by rw [hb.block g (Array.getElem?_eq_some_iff.1 hgg).1]; exact hgg, rest⟩
theorem own_slice {w : World} {B e size n : Nat} {v : Value} {xs : List Value} (h : w.ownsRow B e size v n xs) : ∃ p c, v = .slice p n c := by
  rcases h.2 with ⟨rfl, rfl⟩ | ⟨g, cap, cur, rfl, _⟩
  · exact ⟨_, _, rfl⟩
  · exact ⟨_, _, rfl⟩

/-- The variable in block a holds a slice that owns the cells xs, in rows from block a + 1 on. -/
def gathers (w : World) (e a : Nat) (xs : List Value) : Prop :=
  ∃ p c, w.cell? ⟨a, 0, none⟩ = some (.slice p xs.length c) ∧ w.frozen? ⟨a, 0, none⟩ = false ∧ w.ownsRow (a + 1) e 1 (.slice p xs.length c) xs.length xs

theorem gathers_lt {w : World} {e a : Nat} {xs : List Value} (h : gathers w e a xs) : a < w.heap.size := by
  obtain ⟨p, c, h1, _⟩ := h
  exact World.block_lt_of_cell? w _ h1
theorem gathers_below {w w' : World} {e a : Nat} {xs : List Value} (h : gathers w e a xs) (hb : Below w.heap.size w w') : gathers w' e a xs := by
  have hlt := gathers_lt h
  obtain ⟨p, c, h1, h2, h3⟩ := h
  exact ⟨p, c, by rw [hb.cell (p := ⟨a, 0, none⟩) hlt]; exact h1, by rw [hb.frozen (p := ⟨a, 0, none⟩) hlt]; exact h2, own_below h3 hb⟩

theorem gathers_made (w : World) (e T : Nat) : gathers (w.alloc (.cells #[.slice none 0 0] T)) e w.heap.size [] :=
  ⟨none, 0, by simp [go_sem], by simp [go_sem], World.ownsRow_nil _ _ _ _⟩

/-- Behind an append and the store of what it gave. -/
theorem gathers_next {w w1 : World} {e a : Nat} {xs ys : List Value} {p : Option Addr} {c : Nat} {o : Obj} {v' : Value} (hlt : a < w.heap.size) (h2 : w.frozen? ⟨a, 0, none⟩ = false) (hc : w.cell? ⟨a, 0, none⟩ = some (.slice p xs.length c))
    (hown : w.ownsRow (a + 1) e 1 (.slice p xs.length c) xs.length xs)
    (hown1 : w1.ownsRow (a + 1) e 1 v' (xs.length + ys.length) (xs ++ ys)) (hg : (w.alloc o).grownBy w1 (Value.slice p xs.length c).ownBlock) :
    gathers (w1.setCell ⟨a, 0, none⟩ v') e a (xs ++ ys) ∧ Below a w (w1.setCell ⟨a, 0, none⟩ v') ∧ w1.cell? ⟨a, 0, none⟩ = some (.slice p xs.length c) ∧ w1.frozen? ⟨a, 0, none⟩ = false ∧ w.heap.size ≤ w1.heap.size := by
  have hrow : ∀ k, (Value.slice p xs.length c).ownBlock = some k → a + 1 ≤ k := fun k hk => (hown.lt k hk).1
  have hb1 : Below (a + 1) w w1 := ((Below.refl (a + 1) w).alloc hlt o).grown hg (by rw [World.size_alloc]; omega) hrow
  have hc1 : w1.cell? ⟨a, 0, none⟩ = some (.slice p xs.length c) := by rw [hb1.cell (p := ⟨a, 0, none⟩) (Nat.lt_succ_self a)]; exact hc
  have hf1 : w1.frozen? ⟨a, 0, none⟩ = false := by rw [hb1.frozen (p := ⟨a, 0, none⟩) (Nat.lt_succ_self a)]; exact h2
  obtain ⟨p', c', rfl⟩ := own_slice hown1
  refine ⟨⟨p', c', ?_, ?_, ?_⟩, (hb1.mono (Nat.le_succ a)).setCell (Nat.le_refl _) _, hc1, hf1, hb1.size⟩
  · rw [List.length_append]; exact World.cell?_setCell_same _ _ _ hc1
  · rw [World.frozen?_setCell]; exact hf1
  · rw [List.length_append]; exact ownsRow_setCell_below hown1 (Nat.lt_succ_self a) _

theorem info21 : (Tryz.prog.info? 21).map (fun i => (i.zero, i.size, i.bytes)) = some (some (.int .i32 0), 1, 4) := by kernel_rfl
theorem info59 : (Tryz.prog.info? 167).map (fun i => (i.zero, i.size, i.bytes)) = some (some (.int .u16 0), 1, 2) := by kernel_rfl

set_option maxHeartbeats 400000 in
theorem runes1_any (r n : Int) (a : Nat) (w : World) (xs : List Value) (h : gathers w 21 a xs) (hlen : xs.length < 1000000000) :
    Calls Tryz.prog 168 #[.int .i32 r, .int .i64 n, .pointer (some ⟨a, 0, none⟩)] w fun e w' => e = .returned (.bool true) ∧ gathers w' 21 a (xs ++ [.int .i32 r]) ∧ Below a w w' := by
  obtain ⟨i0, hi, hz0, hz1, hz2⟩ := info_parts info21
  have hlt := gathers_lt h
  obtain ⟨p, c, hc, hf, hown⟩ := h
  go_enter Tryz.func168, Tryz.ntmps168
  go_wp2_with (first
    | (at_builtin; refine wpList_append_own _ rfl _ _ 141 rfl (a + 1) 21 i0 (.int .i32 0) 1 4 Tryz.underlying141 hi hz0 hz1 hz2 rfl (by decide) _ _ _ rfl (hown.alloc _) ⟨w.heap.size, 0, none⟩ 1 1 [.int .i32 r] rfl rfl (cell_one_new _ _ _) (ints_oneCell .i32 [r]) ?c3 ?c4 ?c5 ?_)
    | fail)
  case c3 => unfold maxLen; omega
  case c4 => omega
  case c5 => first | omega | (simp; omega)
  intro v' w1 hown1 hg _
  obtain ⟨R1, R2, R3, R4, R5⟩ := gathers_next (ys := [.int .i32 r]) hlt hf hc hown hown1 hg
  obtain ⟨p', c', hv⟩ := own_slice hown1
  clear hown hown1 hg hc hf
  rw [hv] at R1 R2 ⊢
  go_wp2
  go_ret
  exact ⟨rfl, R1, R2⟩

/-- A rune's halves, as cells. -/
def halCells (r : Nat) : List Value := (hal r).map fun h : Nat => Value.int .u16 (h : Int)

theorem and1023 (r : Int) (h0 : 0 ≤ r) (h1 : r ≤ 1114111) : bits BinOp.and IntKind.i32 r 1023 = r % 1024 := by
  obtain ⟨x, rfl⟩ : ∃ x : Nat, r = x := ⟨r.toNat, by omega⟩
  show IntKind.i32.wrap ((BitVec.ofInt 32 (x : Int) &&& BitVec.ofInt 32 ((1023 : Nat) : Int)).toNat : Int) = _
  have hm : x &&& 1023 = x % 1024 := Nat.and_two_pow_sub_one_eq_mod x 10
  rw [BitVec.toNat_and, ofInt_u32 x (by omega), ofInt_u32 1023 (by omega), hm]
  exact (Lib.wrap_i32_small _ (by omega)).trans (Int.natCast_emod x 1024)

set_option maxHeartbeats 400000 in
theorem appendHalves_one (r : Int) (h0 : 0 ≤ r) (h1 : r < 65536) (B n : Nat) (w : World) (v : Value) (xs : List Value) (hown : w.ownsRow B 167 1 v n xs) (hlen : n < 1000000000) (hB : B ≤ w.heap.size) :
    Calls Tryz.prog 166 #[v, .int .i32 r] w fun e w' => ∃ v' o, e = .returned v' ∧ w'.ownsRow B 167 1 v' (n + 1) (xs ++ [.int .u16 r]) ∧ (w.alloc o).grownBy w' v.ownBlock := by
  obtain ⟨i0, hi, hz0, hz1, hz2⟩ := info_parts info59
  obtain ⟨p, c, rfl⟩ := own_slice hown
  go_enter Tryz.func166, Tryz.ntmps166
  go_wp2_with (first
    | (at_builtin; refine wpList_append_own _ rfl _ _ 144 rfl B 167 i0 (.int .u16 0) 1 2 Tryz.underlying144 hi hz0 hz1 hz2 rfl (by decide) _ _ _ rfl (hown.alloc _) ⟨w.heap.size, 0, none⟩ 1 1 [.int .u16 r] rfl rfl (cell_one_new _ _ _) (ints_oneCell .u16 [r]) ?c3 ?c4 ?c5 ?_)
    | fail)
  case c3 => unfold maxLen; omega
  case c4 => omega
  case c5 => first | omega | (simp; omega)
  intro v' w1 hown1 hg _
  obtain ⟨p', c', hv⟩ := own_slice hown1
  clear hown hi hz0 hz1 hz2
  rw [hv] at hown1 ⊢
  go_wp2
  go_ret
  exact ⟨_, _, rfl, hown1, hg⟩
set_option maxHeartbeats 400000 in
theorem appendHalves_two (r : Int) (h1 : ¬ r < 65536) (h2 : r ≤ 1114111) (B n : Nat) (w : World) (v : Value) (xs : List Value) (hown : w.ownsRow B 167 1 v n xs) (hlen : n < 1000000000) (hB : B ≤ w.heap.size) :
    Calls Tryz.prog 166 #[v, .int .i32 r] w fun e w' => ∃ v' o, e = .returned v' ∧ w'.ownsRow B 167 1 v' (n + 2) (xs ++ [.int .u16 (55296 + (r - 65536) / 1024), .int .u16 (56320 + (r - 65536) % 1024)]) ∧ (w.alloc o).grownBy w' v.ownBlock := by
  obtain ⟨i0, hi, hz0, hz1, hz2⟩ := info_parts info59
  obtain ⟨p, c, rfl⟩ := own_slice hown
  have ha := and1023 (r - 65536) (by omega) (by omega)
  go_enter Tryz.func166, Tryz.ntmps166
  go_wp2_with (first
    | (at_builtin; refine wpList_append_own _ rfl _ _ 144 rfl B 167 i0 (.int .u16 0) 1 2 Tryz.underlying144 hi hz0 hz1 hz2 rfl (by decide) _ _ _ rfl (hown.alloc _) ⟨w.heap.size, 0, none⟩ 2 2 [.int .u16 (55296 + (r - 65536) / 1024), .int .u16 (56320 + (r - 65536) % 1024)] rfl rfl (cell_two_new _ _ _ _) (ints_oneCell .u16 [55296 + (r - 65536) / 1024, 56320 + (r - 65536) % 1024]) ?c3 ?c4 ?c5 ?_)
    | fail)
  case c3 => unfold maxLen; omega
  case c4 => omega
  case c5 => first | omega | (simp; omega)
  intro v' w1 hown1 hg _
  obtain ⟨p', c', hv⟩ := own_slice hown1
  clear hown hi hz0 hz1 hz2
  rw [hv] at hown1 ⊢
  go_wp2
  go_ret
  exact ⟨_, _, rfl, hown1, hg⟩
end Go.Proofs.YtedgnlgjmnccgabGreatDoor
