/-
  What one act of the keep's does to a room: what stays true.
-/
import Derived.Test.YtedgnlgjmnccgabGreatDoorRoomN
import Derived.Test.YtedgnlgjmnccgabGreatDoorRoomDeliv
namespace Go.Proofs.YtedgnlgjmnccgabGreatDoor
set_option linter.unusedVariables false

/-- One act; if it is no Quiet, there is at most one text more. -/
def Stp (one : Prop) (l0 n : Int) (D : List (List UInt8)) (R R' : Rm) : Prop :=
  ∃ n' D', Inv l0 n' D' R' ∧ Inv2 R' ∧ n' ≤ n + 1 ∧ potR R' ≤ potR R + 2400 ∧ R'.cl.length = R.cl.length ∧ Ext D D' ∧ (one → D' = D ∨ D' = D ++ [R'.t])
theorem stp_same {one : Prop} {l0 n : Int} {D : List (List UInt8)} {R : Rm} (hi : Inv l0 n D R) (h2 : Inv2 R) : Stp one l0 n D R R := ⟨n, D, hi, h2, by omega, by omega, rfl, Ext.refl D, fun _ => .inl rfl⟩
theorem stp_edit {one : Prop} {l0 n : Int} {D : List (List UInt8)} {R : Rm} (hi : Inv l0 n D R) (h2 : Inv2 R) {k : Nat} (hk : k < R.cl.length) (q : List Pt) : Stp one l0 n D R (editC R k q) :=
  ⟨n + 1, D, hi.edit hk q, h2.edit hi hk q, by omega, by show potR R ≤ potR R + 2400; omega, by unfold editC setC; simp, Ext.refl D, fun _ => .inl rfl⟩
theorem stp_send {one : Prop} {l0 n : Int} {D : List (List UInt8)} {R : Rm} (hi : Inv l0 n D R) (h2 : Inv2 R) {k : Nat} (hk : k < R.cl.length) : Stp one l0 n D R (sendC R k) := by
  obtain ⟨_, _, _, _, e⟩ := send_keeps R (askP R k)
  exact ⟨n, D, hi.sendK hk, h2.sendK hi hk, by omega, by have := pot_sendAny R (askP R k); unfold sendC; omega, by unfold sendC; rw [e], Ext.refl D, fun _ => .inl rfl⟩
theorem stp_lose {one : Prop} {l0 n : Int} {D : List (List UInt8)} {R : Rm} (hi : Inv l0 n D R) (h2 : Inv2 R) (i : Nat) : Stp one l0 n D R (outR R i) :=
  ⟨n, D, hi.out i, h2.out i, by omega, by have := pot_out R i; omega, rfl, Ext.refl D, fun _ => .inl rfl⟩
theorem stp_twice {one : Prop} {l0 n : Int} {D : List (List UInt8)} {R : Rm} (hi : Inv l0 n D R) (h2 : Inv2 R) {i : Nat} {p : Pk} (hp : R.fl[i]? = some p) : Stp one l0 n D R (sendR R p) := by
  obtain ⟨_, _, _, _, e⟩ := send_keeps R p
  exact ⟨n, D, hi.twice hp, h2.twice hp, by omega, by have := pot_sendAny R p; omega, by rw [e], Ext.refl D, fun _ => .inl rfl⟩
theorem stp_deliv {one : Prop} {l0 n : Int} {D : List (List UInt8)} {R : Rm} (hi : Inv l0 n D R) (h2 : Inv2 R) (i : Nat) : Stp one l0 n D R (delivR l0 R i) := by
  obtain ⟨D', h1, h3, h4, h5⟩ := hi.deliv i
  refine ⟨n, D', h1, h2.deliv hi i, by omega, ?_, h4, h3, fun _ => ?_⟩
  · have hf := h1.few
    unfold delivR at hf ⊢
    cases hp : R.fl[i]? with
    | none => simp only; omega
    | some p =>
      rw [hp] at hf
      simp only at hf ⊢
      have a := (pot_comes l0 (outR R i) p hf).1
      have b := pot_out R i
      have c := (wP_pos p).2
      split at a <;> omega
  · rcases h5 with ⟨e, _⟩ | ⟨e, _⟩
    · exact .inl e
    · exact .inr e
theorem stp_quiet {l0 n : Int} {D : List (List UInt8)} {R : Rm} (hi : Inv l0 n D R) (h2 : Inv2 R) (hm : R.cl.length ≤ 6) : Stp False l0 n D R (quietR l0 R) := by
  obtain ⟨D', h1, h3, h4, h5, h6⟩ := hi.quiet
  exact ⟨n, D', h1, h2.quiet hi, by omega, by omega, h4, h3, fun h => h.elim⟩
end Go.Proofs.YtedgnlgjmnccgabGreatDoor
