/-
  A slice of integers that is read: nil, or a row's part; its head and tail; appended to a row of one's own; bytes as a string.
-/
import Derived.Test.YtedgnlgjmnccgabGreatDoorTexts
import Derived.Laws.AppendOwnNone
namespace Go.Proofs.YtedgnlgjmnccgabGreatDoor
open Go.RowKit
set_option linter.unusedVariables false

def sl (w : World) (k : IntKind) (p : Option Addr) (n c : Nat) (zs : List Int) : Prop :=
  n = zs.length ∧ ((p = none ∧ c = 0 ∧ zs = []) ∨ ∃ b o, p = some ⟨b, o, none⟩ ∧ zs.length ≤ c ∧ c ≤ maxLen ∧ b < w.heap.size ∧ ∀ i z, zs[i]? = some z → w.cell? ⟨b, o + i, none⟩ = some (.int k z))
theorem sl_below {w w' : World} {k : IntKind} {p : Option Addr} {n c : Nat} {zs : List Int} (h : sl w k p n c zs) {B : Nat} (hb : Below B w w') (hB : w.heap.size ≤ B) : sl w' k p n c zs := by
  obtain ⟨h0, h⟩ := h
  refine ⟨h0, ?_⟩
  rcases h with h | ⟨b, o, h1, h2, h3, h4, h5⟩
  · exact .inl h
  · exact .inr ⟨b, o, h1, h2, h3, Nat.lt_of_lt_of_le h4 hb.size, fun i z hi => (hb.cell (p := ⟨b, o + i, none⟩) (Nat.lt_of_lt_of_le h4 hB)).trans (h5 i z hi)⟩
theorem sl_grown {w w' : World} {k : IntKind} {p : Option Addr} {n c : Nat} {zs : List Int} (h : sl w k p n c zs) (hb : Below w.heap.size w w') : sl w' k p n c zs := sl_below h hb (Nat.le_refl _)
theorem sl_reads {w : World} {k : IntKind} {p : Option Addr} {n c : Nat} {zs : List Int} (h : sl w k p n c zs) : reads w k (.slice p n c) zs := by
  obtain ⟨rfl, h⟩ := h
  rcases h with ⟨rfl, rfl, rfl⟩ | ⟨b, o, h1, h2, h3, h4, h5⟩
  · exact ⟨none, 0, rfl, Nat.le_refl _, Nat.zero_le _, fun h => absurd rfl h⟩
  · exact ⟨p, c, rfl, h2, h3, fun _ => ⟨b, o, h1, h4, fun i hi => h5 i _ (by rw [List.getD_eq_getElem?_getD, List.getElem?_eq_getElem hi]; rfl)⟩⟩
theorem sl_own {w : World} {B e : Nat} {k : IntKind} {v : Value} {zs : List Int} {xs : List Value} (hx : xs = zs.map (Value.int k)) (h : w.ownsRow B e 1 v zs.length xs) : ∃ p c, v = .slice p zs.length c ∧ sl w k p zs.length c zs := by
  subst hx
  obtain ⟨h0, hrow⟩ := h
  rcases hrow with ⟨rfl, h2⟩ | ⟨g, cap, cur, rfl, h2, h3, h4, h5, h6, h7⟩
  · obtain rfl : zs = [] := List.eq_nil_of_length_eq_zero h2
    exact ⟨none, 0, rfl, rfl, .inl ⟨rfl, rfl, rfl⟩⟩
  · refine ⟨_, cap, rfl, rfl, .inr ⟨g, 0, rfl, h4, h5, (Array.getElem?_eq_some_iff.1 h3).1, fun i z hi => ?_⟩⟩
    have hil : i < zs.length := (List.getElem?_eq_some_iff.1 hi).1
    rw [Nat.mul_one] at h7
    have hc : cur[i]? = some (.int k z) := by
      rw [← Array.getElem?_toList]
      have := congrArg (·[i]?) h7
      simp only [List.getElem?_take, hil, if_true, List.getElem?_map] at this
      rw [this, hi]
      rfl
    rw [Nat.zero_add]
    show w.cell? ⟨g, i, none⟩ = _
    unfold World.cell?
    simp [h3, hc]
theorem sl_head {w : World} {k : IntKind} {p : Option Addr} {n c m : Nat} {zs : List Int} (h : sl w k p n c zs) (hm : m ≤ n) : sl w k p m c (zs.take m) := by
  obtain ⟨rfl, h⟩ := h
  refine ⟨by rw [List.length_take]; omega, ?_⟩
  rcases h with ⟨h1, h2, rfl⟩ | ⟨b, o, h1, h2, h3, h4, h5⟩
  · exact .inl ⟨h1, h2, by simp⟩
  · refine .inr ⟨b, o, h1, by rw [List.length_take]; omega, h3, h4, fun i z hi => h5 i z ?_⟩
    rw [List.getElem?_take] at hi
    split at hi
    · exact hi
    · cases hi
theorem sl_tail {w : World} {k : IntKind} {b o n c m : Nat} {zs : List Int} (h : sl w k (some ⟨b, o, none⟩) n c zs) (hm : m ≤ n) : sl w k (some ⟨b, o + m, none⟩) (n - m) (c - m) (zs.drop m) := by
  obtain ⟨rfl, h⟩ := h
  refine ⟨by rw [List.length_drop], ?_⟩
  rcases h with ⟨h1, _⟩ | ⟨b', o', h1, h2, h3, h4, h5⟩
  · cases h1
  · obtain ⟨rfl, rfl, _⟩ : b = b' ∧ o = o' ∧ True := by injection h1 with h1; injection h1 with h1 h2; exact ⟨h1, h2, trivial⟩
    refine .inr ⟨b, o + m, rfl, by rw [List.length_drop]; omega, by omega, h4, fun i z hi => ?_⟩
    rw [List.getElem?_drop] at hi
    have := h5 (m + i) z hi
    rw [Nat.add_assoc]; exact this
/-- The tail from the end of what there is room for: the address stays. -/
theorem sl_last {w : World} {k : IntKind} {b o n c m : Nat} {zs : List Int} (h : sl w k (some ⟨b, o, none⟩) n c zs) (hm : m ≤ n) (hc : c = m) : sl w k (some ⟨b, o, none⟩) 0 0 (zs.drop m) := by
  obtain ⟨rfl, h⟩ := h
  rcases h with ⟨h1, _⟩ | ⟨b', o', h1, h2, h3, h4, h5⟩
  · cases h1
  · obtain ⟨rfl, rfl, _⟩ : b = b' ∧ o = o' ∧ True := by injection h1 with h1; injection h1 with h1 h2; exact ⟨h1, h2, trivial⟩
    have e : zs.drop m = [] := List.drop_eq_nil_of_le (by omega)
    rw [e]
    exact ⟨rfl, .inr ⟨b, o, rfl, Nat.le_refl _, Nat.zero_le _, h4, fun i z hi => by cases hi⟩⟩
/-- The tail as the walk writes it. -/
theorem sl_cut {w : World} {k : IntKind} {p : Option Addr} {n c m : Nat} {zs : List Int} (h : sl w k p n c zs) (hm : m ≤ n) : sl w k (if c = m then p else Option.map (fun x => x.add m) p) (n - m) (c - m) (zs.drop m) := by
  cases p with
  | none =>
    obtain ⟨rfl, h⟩ := h
    rcases h with ⟨_, rfl, rfl⟩ | ⟨_, _, h1, _⟩
    · have : m = 0 := by simpa using hm
      subst this
      exact ⟨rfl, .inl ⟨by simp, rfl, rfl⟩⟩
    · cases h1
  | some a =>
    have h0 := h
    obtain ⟨rfl, h⟩ := h
    rcases h with ⟨h1, _⟩ | ⟨b, o, h1, h2, _⟩
    · cases h1
    · obtain rfl : a = ⟨b, o, none⟩ := Option.some.inj h1
      by_cases hc : c = m
      · rw [if_pos hc]
        have e1 : zs.length - m = 0 := by omega
        have e2 : c - m = 0 := by omega
        rw [e1, e2]
        exact sl_last h0 hm hc
      · rw [if_neg hc]
        have := sl_tail h0 hm
        simpa [Addr.add_lit] using this
theorem sl_cap {w : World} {k : IntKind} {p : Option Addr} {n c : Nat} {zs : List Int} (h : sl w k p n c zs) : n ≤ c ∧ c ≤ maxLen ∧ n = zs.length := by
  obtain ⟨rfl, h⟩ := h
  rcases h with ⟨h1, rfl, rfl⟩ | ⟨b, o, h1, h2, h3, _⟩
  · exact ⟨Nat.le_refl _, Nat.zero_le _, rfl⟩
  · exact ⟨h2, h3, rfl⟩
theorem grown_refl (w : World) (row : Option Nat) : w.grownBy w row := ⟨rfl, rfl, rfl, Nat.le_refl _, fun _ _ _ => rfl⟩

theorem wpList_append_sl {P : Program} (w : World) {ops : Array Oper} {rest : List Oper} {o : Oper} {a : Act} {Q : Exit → Act → World → Prop} (hgd : o.guard = none) (s x : Operand) (t : TypeId)
    (ho : o.op = .call { callee := .builtin .append, args := #[s, x], argTypes := #[t, t] })
    (base : Nat) (e : TypeId) (i : TypeInfo) (z : Value) (bytes : Nat) (ht : P.underlying t = some (.slice e)) (hi : P.info? e = some i) (hz : i.zero = some z)
    (hsize : i.size = 1) (hby : i.bytes = bytes) (hzs : z.cells.size = 1)
    (v : Value) (n : Nat) (xs : List Value) (hs : a.eval s = v) (hown : w.ownsRow base e 1 v n xs)
    (k : IntKind) (p : Option Addr) (m c : Nat) (zs : List Int) (hx : a.eval x = .slice p m c) (hsl : sl w k p m c zs)
    (h63 : n + m ≤ maxLen) (hbytes : (n + m) * bytes ≤ 140737488355328) (hbase : base ≤ w.heap.size)
    (h : ∀ v' w', w'.ownsRow base e 1 v' (n + m) (xs ++ zs.map (Value.int k)) → w.grownBy w' v.ownBlock → wpList P ops Q rest (a.put o.dst v') w') : wpList P ops Q (o :: rest) a w := by
  obtain ⟨rfl, hsl⟩ := hsl
  rcases hsl with ⟨rfl, rfl, rfl⟩ | ⟨b, o', rfl, h2, h3, h4, h5⟩
  · exact wpList_append_own_none hgd s x t ho base e i 1 ht hi v n xs hs hown hx (h v w (by simpa using hown) (grown_refl _ _))
  · exact wpList_append_own w hgd s x t ho base e i z 1 bytes ht hi hz hsize hby hzs (by decide) v n xs hs hown ⟨b, o', none⟩ zs.length c (zs.map (Value.int k)) hx (by simp) (fun j u hj => by
      rw [List.getElem?_map] at hj
      cases hz' : zs[j]? with
      | none => rw [hz'] at hj; cases hj
      | some z' =>
        rw [hz'] at hj
        obtain rfl : Value.int k z' = u := Option.some.inj hj
        rw [Addr.add_lit]; exact h5 j z' hz') (fun u hu => by
      obtain ⟨y, _, rfl⟩ := List.mem_map.1 hu
      rfl) h63 hbytes hbase fun v' w' g1 g2 _ => h v' w' g1 g2

/-- 'string(b)' of bytes that are read. -/
theorem string_sl {w : World} {p : Option Addr} {n c : Nat} {l : List UInt8} (h : sl w .u8 p n c (l.map fun b => (b.toNat : Int))) : (convert 158 9 (.slice p n c)).run Tryz.prog w = .ok (.string ⟨l.toArray⟩) w := by
  obtain ⟨rfl, h⟩ := h
  rw [List.length_map]
  rcases h with ⟨rfl, rfl, e⟩ | ⟨b, o, rfl, h2, h3, h4, h5⟩
  · obtain rfl : l = [] := List.map_eq_nil_iff.1 e
    kernel_rfl
  · refine run_convert_bytes_back w 158 9 5 ⟨b, o, none⟩ c l Tryz.underlying158 Tryz.underlying5 Tryz.underlying9 fun j hj => ?_
    rw [Addr.add_lit]
    exact h5 j _ (by rw [List.getElem?_map, List.getElem?_eq_getElem hj]; rfl)
end Go.Proofs.YtedgnlgjmnccgabGreatDoor
