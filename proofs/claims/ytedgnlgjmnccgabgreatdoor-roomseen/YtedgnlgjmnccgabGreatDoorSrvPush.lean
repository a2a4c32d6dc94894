/-
  What is put behind a server's rows.
-/
import Derived.Test.YtedgnlgjmnccgabGreatDoorSrvMem
namespace Go.Proofs.YtedgnlgjmnccgabGreatDoor
open Go.RowKit Go.Maps
set_option linter.unusedVariables false

theorem frozen_block {w : World} {b o : Nat} {cs : Array Value} {T : TypeId} (h : w.heap[b]? = some (.cells cs T (0, 0))) : w.frozen? ⟨b, o, none⟩ = false := by unfold World.frozen?; simp [h]
theorem alloc_block {w : World} {k : Nat} {o o' : Obj} (h : w.heap[k]? = some o) : (w.alloc o').heap[k]? = some o :=
  (((Below.refl w.heap.size w).alloc (Nat.le_refl _) o').block k (Array.getElem?_eq_some_iff.1 h).1).trans h
/-- The log's row holds an entry more, and the struct says so. -/
theorem log_push {e TS lo : Nat} {w : World} {b : Nat} {x0 m v1 vx : Value} {E : List SE} {x : SE} (he : e ≠ 50) (hTS : TS ≠ 50) (hne : TS ≠ e) (hlo : lo ≤ b) (hb : w.heap[b]? = some (.cells #[x0, v1, m] TS (0, 0))) (hl : isLog e lo lo w v1 E) (hx : opX lo w vx x.op) :
    ∃ vs, vs.length = E.length ∧ (w.alloc (.cells #[.int .i64 x.c, .int .i64 x.i, vx] e)).ownsRow lo e 3 v1 E.length (logC E vs) ∧ ∀ w6 v2, w6.ownsRow lo e 3 v2 (E.length + 1) (logC E vs ++ [.int .i64 x.c, .int .i64 x.i, vx]) → (w.alloc (.cells #[.int .i64 x.c, .int .i64 x.i, vx] e)).grownBy w6 v1.ownBlock →
      w6.cell? ⟨b, 1, none⟩ = some v1 ∧ w6.frozen? ⟨b, 1, none⟩ = false ∧ (w6.setCell ⟨b, 1, none⟩ v2).heap[b]? = some (.cells #[x0, v2, m] TS (0, 0)) ∧ isLog e lo lo (w6.setCell ⟨b, 1, none⟩ v2) v2 (E ++ [x]) ∧ sameBut w (w6.setCell ⟨b, 1, none⟩ v2) (fun k => k = b ∨ v1.ownBlock = some k) := by
  have hbw : Below w.heap.size w (w.alloc (.cells #[.int .i64 x.c, .int .i64 x.i, vx] e)) := (Below.refl _ _).alloc (Nat.le_refl _) _
  obtain ⟨vs, h1, h2, h3⟩ := isLog_below hl hbw
  have hown := fun k => log_own (k := k) hl
  refine ⟨vs, h1, h2, fun w6 v2 hnew hg => ?_⟩
  have h6 := isLog_snoc (x := x) he (Nat.le_refl _) h1 h2 h3 (opX_grown hx hbw) hg hnew
  have hnb : some b ≠ v1.ownBlock := fun e => by
    obtain ⟨_, _, cs, hc⟩ := hown b e.symm
    exact hne (not_type hb hc)
  have hb6 : w6.heap[b]? = some (.cells #[x0, v1, m] TS (0, 0)) := (hg.block b (Array.getElem?_eq_some_iff.1 (alloc_block hb)).1 hnb).trans (alloc_block hb)
  refine ⟨Lib.cell_of_heap hb6 1, frozen_block hb6, heap_setCell_same w6 b 1 _ TS v2 hb6, isLog_but (S := fun k => k = b) h6 (sameBut_set rfl) fun k hk => ?_, ?_⟩
  · obtain rfl := hk
    exact ⟨hlo, noPart_of hb6 hTS, fun cs fz hc => hne (not_type hb6 hc)⟩
  · exact ((sameBut_below hbw _).comp (sameBut_grown (S := fun k => k = b ∨ v1.ownBlock = some k) hg fun k e => .inr e) fun k _ h => h).comp (sameBut_set (S := fun k => k = b ∨ v1.ownBlock = some k) (.inl rfl)) fun k _ h => h
/-- The struct's first cell is set. -/
theorem text_set {e TS lo : Nat} {w : World} {b : Nat} {x0 m v1 : Value} {E : List SE} (hTS : TS ≠ 50) (hne : TS ≠ e) (hlo : lo ≤ b) (hb : w.heap[b]? = some (.cells #[x0, v1, m] TS (0, 0))) (hl : isLog e lo lo w v1 E) (u : Value) :
    w.frozen? ⟨b, 0, none⟩ = false ∧ (w.setCell ⟨b, 0, none⟩ u).heap[b]? = some (.cells #[u, v1, m] TS (0, 0)) ∧ isLog e lo lo (w.setCell ⟨b, 0, none⟩ u) v1 E :=
  ⟨frozen_block hb, heap_setCell_same w b 0 _ TS u hb, isLog_but (S := fun k => k = b) hl (sameBut_set rfl) fun k hk => by
    obtain rfl := hk
    exact ⟨hlo, noPart_of hb hTS, fun cs fz hc => hne (not_type hb hc)⟩⟩
end Go.Proofs.YtedgnlgjmnccgabGreatDoor
