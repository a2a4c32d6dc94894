/-
  Plain mathematics: the rope's trees: chunks in order, heights, balance.
-/
import Derived.Test.YtldhbjmillfjgabGreatDoorLink
namespace Go.Proofs.YtldhbjmillfjgabGreatDoor

def T.chunks : T → List (List Nat)
  | .nil => []
  | .node l rs r => l.chunks ++ [rs] ++ r.chunks
theorem runes_chunks : ∀ t : T, t.runes = t.chunks.flatten
  | .nil => rfl
  | .node l rs r => by simp [T.runes, T.chunks, runes_chunks l, runes_chunks r]
theorem size_chunks : ∀ t : T, t.size = t.chunks.length
  | .nil => rfl
  | .node l rs r => by simp [T.size, T.chunks, size_chunks l, size_chunks r]; omega
theorem height_size : ∀ t : T, t.height ≤ t.size
  | .nil => Nat.le_refl _
  | .node l rs r => by have := height_size l; have := height_size r; simp only [T.height, T.size]; omega
def T.bal : T → Prop
  | .nil => True
  | .node l _ r => l.bal ∧ r.bal ∧ l.height ≤ r.height + 1 ∧ r.height ≤ l.height + 1

/-- A tree that is not too great. -/
def big (t : T) : Prop := C1 t.runes ≤ 1000000000 ∧ t.size ≤ 100000000
theorem C1_pos (rs : List Nat) : 0 ≤ C1 rs := by rw [C1_len]; omega
theorem big_node {l r : T} {c : List Nat} (h : big (.node l c r)) : big l ∧ big r ∧ C1 l.runes + C1 c + C1 r.runes ≤ 1000000000 ∧ (l.size < 1000000000 ∧ r.size < 1000000000 ∧ l.height < 1000000000 ∧ r.height < 1000000000) := by
  obtain ⟨h1, h2⟩ := h
  simp only [T.runes, C1_append, T.size] at h1 h2
  have a1 := C1_pos l.runes
  have a2 := C1_pos c
  have a3 := C1_pos r.runes
  have b1 := height_size l
  have b2 := height_size r
  exact ⟨⟨by omega, by omega⟩, ⟨by omega, by omega⟩, h1, by omega, by omega, by omega, by omega⟩
theorem big_same {t t' : T} (h : big t) (e : t'.chunks = t.chunks) : big t' := by
  unfold big at *
  rw [runes_chunks, e, ← runes_chunks, size_chunks, e, ← size_chunks]
  exact h

/-- What 'turn' makes of two trees with a chunk between. -/
def turnT (l : T) (c : List Nat) (r : T) : T :=
  if l.height = r.height + 2 then
    match l with
    | .node ll lc (.node a b d) => if ll.height < (T.node a b d).height then .node (.node ll lc a) b (.node d c r) else .node ll lc (.node (.node a b d) c r)
    | .node ll lc .nil => .node ll lc (.node .nil c r)
    | .nil => .node .nil c r
  else if r.height = l.height + 2 then
    match r with
    | .node (.node a b d) rc rr => if rr.height < (T.node a b d).height then .node (.node l c a) b (.node d rc rr) else .node (.node l c (.node a b d)) rc rr
    | .node .nil rc rr => .node (.node l c .nil) rc rr
    | .nil => .node l c .nil
  else .node l c r
theorem turnT_chunks (l : T) (c : List Nat) (r : T) : (turnT l c r).chunks = l.chunks ++ [c] ++ r.chunks := by
  unfold turnT
  split
  · split
    · split <;> simp [T.chunks]
    · simp [T.chunks]
    · simp [T.chunks]
  · split
    · split
      · split <;> simp [T.chunks]
      · simp [T.chunks]
      · simp [T.chunks]
    · simp [T.chunks]
theorem turnT_bal {l r : T} (c : List Nat) (hl : l.bal) (hr : r.bal) (h1 : l.height ≤ r.height + 2) (h2 : r.height ≤ l.height + 2) :
    (turnT l c r).bal ∧ (l.height ≤ r.height + 1 → r.height ≤ l.height + 1 → (turnT l c r).height = 1 + max l.height r.height) ∧ max l.height r.height ≤ (turnT l c r).height ∧ (turnT l c r).height ≤ 1 + max l.height r.height := by
  unfold turnT
  split
  · rename_i h
    match l, hl, h1, h2, h with
    | .nil, hl, h1, h2, h => simp [T.height] at h
    | .node ll lc .nil, hl, h1, h2, h =>
      simp only [T.bal, T.height] at *
      obtain ⟨hll, _, h5, h6⟩ := hl
      exact ⟨⟨hll, ⟨trivial, hr, by omega, by omega⟩, by omega, by omega⟩, fun _ _ => by omega, by omega, by omega⟩
    | .node ll lc (.node a b d), hl, h1, h2, h =>
      simp only [T.bal, T.height] at *
      obtain ⟨hll, ⟨ha, hd, h3, h4⟩, h5, h6⟩ := hl
      by_cases hc : ll.height < 1 + max a.height d.height
      · simp only [hc, if_true, T.bal, T.height]
        exact ⟨⟨⟨hll, ha, by omega, by omega⟩, ⟨hd, hr, by omega, by omega⟩, by omega, by omega⟩, fun _ _ => by omega, by omega, by omega⟩
      · simp only [hc, if_false, T.bal, T.height]
        exact ⟨⟨hll, ⟨⟨ha, hd, h3, h4⟩, hr, by omega, by omega⟩, by omega, by omega⟩, fun _ _ => by omega, by omega, by omega⟩
  · rename_i h
    split
    · rename_i h'
      match r, hr, h1, h2, h, h' with
      | .nil, hr, h1, h2, h, h' => simp [T.height] at h'
      | .node .nil rc rr, hr, h1, h2, h, h' =>
        simp only [T.bal, T.height] at *
        obtain ⟨_, hrr, h5, h6⟩ := hr
        exact ⟨⟨⟨hl, trivial, by omega, by omega⟩, hrr, by omega, by omega⟩, fun _ _ => by omega, by omega, by omega⟩
      | .node (.node a b d) rc rr, hr, h1, h2, h, h' =>
        simp only [T.bal, T.height] at *
        obtain ⟨⟨ha, hd, h3, h4⟩, hrr, h5, h6⟩ := hr
        by_cases hc : rr.height < 1 + max a.height d.height
        · simp only [hc, if_true, T.bal, T.height]
          exact ⟨⟨⟨hl, ha, by omega, by omega⟩, ⟨hd, hrr, by omega, by omega⟩, by omega, by omega⟩, fun _ _ => by omega, by omega, by omega⟩
        · simp only [hc, if_false, T.bal, T.height]
          exact ⟨⟨⟨hl, ⟨ha, hd, h3, h4⟩, by omega, by omega⟩, hrr, by omega, by omega⟩, fun _ _ => by omega, by omega, by omega⟩
    · rename_i h'
      exact ⟨⟨hl, hr, by omega, by omega⟩, fun _ _ => rfl, by show _ ≤ 1 + max l.height r.height; omega, Nat.le_refl _⟩
end Go.Proofs.YtldhbjmillfjgabGreatDoor
