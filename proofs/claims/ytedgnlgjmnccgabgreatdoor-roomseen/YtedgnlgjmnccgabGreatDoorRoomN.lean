/-
  A room (pure): behind three quiet rounds all see the same.
-/
import Derived.Test.YtedgnlgjmnccgabGreatDoorRoomM
namespace Go.Proofs.YtedgnlgjmnccgabGreatDoor
set_option linter.unusedVariables false

theorem Inv2.settleM {l0 n : Int} : ∀ (m : Nat) (D : List (List UInt8)) (R : Rm), Inv l0 n D R → Inv2 R → Inv2 (settleN l0 m R)
  | 0, D, R, _, h => h
  | m + 1, D, R, hi, h => by
    cases hf : R.fl with
    | nil => rw [settle_nil l0 (m + 1) R hf]; exact h
    | cons p fl =>
      have hp := hi.pks p (by rw [hf]; simp)
      have hq := h.pq p (by rw [hf]; simp)
      have ho := hi.out 0
      have ho2 := h.out 0
      rw [out_head hf] at ho ho2
      obtain ⟨D1, i1, _⟩ := ho.comes (p := p) hp
      rw [settle_step l0 m R p fl hf]
      exact Inv2.settleM m D1 _ i1 (ho2.comes ho hp hq)
theorem Inv2.settle {l0 n : Int} {D : List (List UInt8)} {R : Rm} (hi : Inv l0 n D R) (h : Inv2 R) : Inv2 (settleR l0 R) := Inv2.settleM _ D R hi h
theorem Inv2.deliv {l0 n : Int} {D : List (List UInt8)} {R : Rm} (hi : Inv l0 n D R) (h : Inv2 R) (i : Nat) : Inv2 (delivR l0 R i) := by
  unfold delivR
  cases hp : R.fl[i]? with
  | none => exact h
  | some p => exact (h.out i).comes (hi.out i) (p := p) (hi.pks p (List.mem_of_getElem? hp)) (h.pq p (List.mem_of_getElem? hp))
theorem Inv2.twice {R : Rm} (h : Inv2 R) {i : Nat} {p : Pk} (hp : R.fl[i]? = some p) : Inv2 (sendR R p) := h.send (h.pq p (List.mem_of_getElem? hp))
theorem Inv2.quietM {l0 n : Int} : ∀ (m k : Nat) (D : List (List UInt8)) (R : Rm), Inv l0 n D R → Inv2 R → k + m = R.cl.length → Inv2 (quietK l0 m k R)
  | 0, k, D, R, _, h, _ => h
  | m + 1, k, D, R, hi, h, hk => by
    have h1 := hi.sendK (k := k) (by omega)
    have h2 := h.sendK hi (k := k) (by omega)
    have hc : (sendC R k).cl.length = R.cl.length := by unfold sendC; rw [(send_keeps _ _).2.2.2.2]
    obtain ⟨D1, i1, i2, i3, i4, i5⟩ := h1.settle
    exact Inv2.quietM m (k + 1) D1 _ i1 (h2.settle h1) (by rw [i3, hc]; omega)
theorem Inv2.quiet {l0 n : Int} {D : List (List UInt8)} {R : Rm} (hi : Inv l0 n D R) (h : Inv2 R) : Inv2 (quietR l0 R) := by
  obtain ⟨D1, i1, i2, i3, i4, i5⟩ := hi.settle
  exact Inv2.quietM R.cl.length 0 D1 _ i1 (h.settle hi) (by rw [i3]; omega)

/-! one client sends, and all comes -/
theorem settleR_nil {l0 : Int} {R : Rm} (h : R.fl = []) : settleR l0 R = R := settle_nil l0 _ R h
end Go.Proofs.YtedgnlgjmnccgabGreatDoor
