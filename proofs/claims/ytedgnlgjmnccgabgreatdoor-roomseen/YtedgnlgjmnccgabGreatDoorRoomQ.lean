/-
  A room (pure): all that comes of packets, and how much there may be.
-/
import Derived.Test.YtedgnlgjmnccgabGreatDoorRoomP
namespace Go.Proofs.YtedgnlgjmnccgabGreatDoor
set_option linter.unusedVariables false

/-- Documents are only added. -/
def Ext (D D' : List (List UInt8)) : Prop := ∀ (i : Nat) (d : List UInt8), D[i]? = some d → D'[i]? = some d
theorem Ext.refl (D : List (List UInt8)) : Ext D D := fun _ _ h => h
theorem Ext.trans {D D' D'' : List (List UInt8)} (h : Ext D D') (h' : Ext D' D'') : Ext D D'' := fun i d e => h' i d (h i d e)
theorem askR_keeps (l0 : Int) (R : Rm) (p : Pk) : (askR l0 R p).cl = R.cl ∧ (askR l0 R p).E = (srvR l0 R p).E ∧ (askR l0 R p).t = (srvR l0 R p).t ∧ (askR l0 R p).M = (srvR l0 R p).M ∧ (askR l0 R p).n = R.n + 1 := by
  obtain ⟨a, b, c, d, e⟩ := tellR_keeps (srvR l0 R p) p.c p.rev
  unfold askR
  split
  · obtain ⟨a', b', c', d', e'⟩ := send_keeps (tellR (srvR l0 R p) p.c p.rev) (refuseP p)
    exact ⟨e'.trans e, b'.trans b, a'.trans a, c'.trans c, d'.trans d⟩
  · exact ⟨e, b, a, c, d⟩
/-- What comes of a packet: all is kept; one document more at most. -/
theorem Inv.comes {l0 n : Int} {D : List (List UInt8)} {R : Rm} (h : Inv l0 n D R) {p : Pk} (hp : okPk R.E D R.cl.length p) :
    ∃ D', Inv l0 n D' (comesR l0 R p) ∧ Ext D D' ∧ (comesR l0 R p).cl.length = R.cl.length ∧ (∀ (i : Nat) (x : SE), R.E[i]? = some x → (comesR l0 R p).E[i]? = some x) ∧
      (D' = D ∧ (comesR l0 R p).E = R.E ∧ (comesR l0 R p).t = R.t ∨ D' = D ++ [(comesR l0 R p).t] ∧ (comesR l0 R p).E.length = R.E.length + 1) := by
  unfold comesR
  by_cases k1 : p.kind = 1
  · rw [if_pos k1]
    obtain ⟨D', i1, i2, i3, i4⟩ := h.srvK hp k1
    obtain ⟨a, b, c, d, e⟩ := askR_keeps l0 R p
    have hcl : (srvR l0 R p).cl.length = R.cl.length := rfl
    have it := i1.tellK (k := p.c) (by rw [hcl]; exact hp.c) p.rev
    obtain ⟨ta, tb, tc, td, te⟩ := tellR_keeps (srvR l0 R p) p.c p.rev
    refine ⟨D', ?_, i2, by rw [a], fun i x hx => by rw [b]; exact i3 i x hx, ?_⟩
    · unfold askR
      split
      · refine it.send ⟨?_, .inr (.inr (.inr rfl)), ⟨Int.le_refl _, by show (0 : Int) ≤ _; omega⟩, fun e => (by cases e), fun e => (by cases e)⟩
        rw [te, hcl]; exact hp.c
      · exact it
    · rw [b, c]
      rcases i4 with ⟨e1, e2, e3⟩ | ⟨e1, e2⟩
      · exact .inl ⟨e3, e1, e2⟩
      · exact .inr ⟨e2, e1⟩
  rw [if_neg k1]
  by_cases k2 : p.kind = 2
  · rw [if_pos k2]
    obtain ⟨ta, tb, tc, td, te⟩ := tellR_keeps R p.c p.rev
    exact ⟨D, h.tellK hp.c p.rev, Ext.refl D, by rw [te], fun i x hx => by rw [tb]; exact hx, .inl ⟨rfl, tb, ta⟩⟩
  rw [if_neg k2]
  obtain ⟨hq, hc⟩ := h.clk hp.c
  have hlen : ∀ S, (setC R p.c S).cl.length = R.cl.length := fun S => List.length_set
  by_cases k3 : p.kind = 3
  · rw [if_pos k3]
    exact ⟨D, h.setK (Int.le_refl _) (okCl_take hc h.lk p.c (hp.told k3)), Ext.refl D, hlen _, fun i x hx => hx, .inl ⟨rfl, rfl, rfl⟩⟩
  rw [if_neg k3]
  by_cases k4 : p.kind = 4
  · rw [if_pos k4]
    exact ⟨D, h.setK (Int.le_refl _) (okCl_refuse hc p.id), Ext.refl D, hlen _, fun i x hx => hx, .inl ⟨rfl, rfl, rfl⟩⟩
  · rcases hp.kind with e | e | e | e
    · exact absurd e k1
    · exact absurd e k2
    · exact absurd e k3
    · exact absurd e k4
theorem Inv.askK {l0 n : Int} {D : List (List UInt8)} {R : Rm} (h : Inv l0 n D R) {k : Nat} (hk : k < R.cl.length) : okPk R.E D R.cl.length (askP R k) := by
  obtain ⟨hq, hc⟩ := h.clk hk
  have hr := hc.revle h.lk
  unfold askP
  split
  · exact ⟨hk, .inr (.inl rfl), ⟨hc.rev, hr⟩, fun e => (by cases e), fun e => (by cases e)⟩
  · rename_i hm
    obtain ⟨g, hp⟩ := good_head hc.ok hm
    exact ⟨hk, .inl rfl, ⟨hc.rev, hr⟩, fun _ => ⟨rfl, rfl, _, hc.seen, g, hp⟩, fun e => (by cases e)⟩
theorem Inv.sendK {l0 n : Int} {D : List (List UInt8)} {R : Rm} (h : Inv l0 n D R) {k : Nat} (hk : k < R.cl.length) : Inv l0 n D (sendC R k) := h.send (h.askK hk)
theorem Inv.edit {l0 n : Int} {D : List (List UInt8)} {R : Rm} (h : Inv l0 n D R) {k : Nat} (hk : k < R.cl.length) (q : List Pt) : Inv l0 (n + 1) D (editC R k q) :=
  h.setK (by omega) (okCl_edit (h.clk hk).2 q)
theorem Inv.deliv {l0 n : Int} {D : List (List UInt8)} {R : Rm} (h : Inv l0 n D R) (i : Nat) :
    ∃ D', Inv l0 n D' (delivR l0 R i) ∧ Ext D D' ∧ (delivR l0 R i).cl.length = R.cl.length ∧
      (D' = D ∧ (delivR l0 R i).E = R.E ∧ (delivR l0 R i).t = R.t ∨ D' = D ++ [(delivR l0 R i).t] ∧ (delivR l0 R i).E.length = R.E.length + 1) := by
  unfold delivR
  cases hp : R.fl[i]? with
  | none => exact ⟨D, h, Ext.refl D, rfl, .inl ⟨rfl, rfl, rfl⟩⟩
  | some p =>
    obtain ⟨D', a, b, c, _, d⟩ := (h.out i).comes (p := p) (h.pks p (List.mem_of_getElem? hp))
    exact ⟨D', a, b, c, d⟩
theorem Inv.twice {l0 n : Int} {D : List (List UInt8)} {R : Rm} (h : Inv l0 n D R) {i : Nat} {p : Pk} (hp : R.fl[i]? = some p) : Inv l0 n D (sendR R p) := h.send (h.pks p (List.mem_of_getElem? hp))

/-! how much there may be -/
theorem weight_app (a b : List Pk) : weightR (a ++ b) = weightR a + weightR b := by simp [weightR]
theorem wP_pos (p : Pk) : 1 ≤ wP p ∧ wP p ≤ 400 := by unfold wP; split <;> omega
theorem weight_len : ∀ fl : List Pk, fl.length ≤ weightR fl ∧ weightR fl ≤ 400 * fl.length
  | [] => by simp [weightR]
  | p :: fl => by
    have := weight_len fl
    have := wP_pos p
    have e : weightR (p :: fl) = wP p + weightR fl := by simp [weightR]
    rw [e, List.length_cons]; omega
theorem pot_send (R : Rm) (p : Pk) (hp : wP p = 1) : potR (sendR R p) = potR R + 1 := by
  unfold potR sendR
  split
  · simp only; omega
  · simp only [weight_app]
    have : weightR [p] = 1 := by simp [weightR, hp]
    omega
theorem weight_send (R : Rm) (p : Pk) : weightR (sendR R p).fl ≤ weightR R.fl + wP p := by
  unfold sendR
  split
  · simp only; omega
  · simp only [weight_app]
    have : weightR [p] = wP p := by simp [weightR]
    omega
theorem pot_sendAny (R : Rm) (p : Pk) : potR (sendR R p) ≤ potR R + 400 := by
  have := wP_pos p
  unfold potR sendR
  split
  · simp only; omega
  · simp only [weight_app]
    have : weightR [p] = wP p := by simp [weightR]
    omega
theorem pot_tellL (k : Nat) : ∀ (xs : List SE) (f : Int) (R : Rm), potR (tellL k f xs R) = potR R + xs.length ∧ weightR (tellL k f xs R).fl ≤ weightR R.fl + xs.length
  | [], _, _ => ⟨rfl, Nat.le_refl _⟩
  | x :: xs, f, R => by
    obtain ⟨i1, i2⟩ := pot_tellL k xs (f + 1) (sendR R ⟨3, k, f, 0, x⟩)
    have e : wP ⟨3, k, f, 0, x⟩ = 1 := rfl
    have h1 := pot_send R ⟨3, k, f, 0, x⟩ e
    have h2 := weight_send R ⟨3, k, f, 0, x⟩
    have u : tellL k f (x :: xs) R = tellL k (f + 1) xs (sendR R ⟨3, k, f, 0, x⟩) := rfl
    rw [u, List.length_cons]
    omega
theorem pot_tellR (R : Rm) (k : Nat) (f : Int) : potR (tellR R k f) ≤ potR R + R.E.length ∧ weightR (tellR R k f).fl ≤ weightR R.fl + R.E.length := by
  unfold tellR
  split
  · omega
  · obtain ⟨i1, i2⟩ := pot_tellL k (R.E.drop f.toNat) f R
    have := List.length_drop (i := f.toNat) (l := R.E)
    omega
/-- What comes of a packet is less than it was. -/
theorem pot_comes (l0 : Int) (R : Rm) (p : Pk) (hE : (comesR l0 R p).E.length ≤ 300) : potR (comesR l0 R p) + 1 ≤ potR R + wP p + (if p.kind = 1 ∨ p.kind = 2 then 0 else 1) ∧ weightR (comesR l0 R p).fl + 1 ≤ weightR R.fl + wP p := by
  unfold comesR at *
  by_cases k1 : p.kind = 1
  · rw [if_pos k1] at hE ⊢
    have w1 : wP p = 400 := by unfold wP; rw [if_pos (.inl k1)]
    obtain ⟨a, b, c, d, e⟩ := askR_keeps l0 R p
    rw [b] at hE
    obtain ⟨i1, i2⟩ := pot_tellR (srvR l0 R p) p.c p.rev
    have p0 : potR (srvR l0 R p) = potR R + 1 := by unfold potR; show R.n + 1 + R.lost + weightR R.fl = _; omega
    have w0 : weightR (srvR l0 R p).fl = weightR R.fl := rfl
    rw [w1, if_pos (.inl k1)]
    unfold askR
    split
    · have h1 := pot_send (tellR (srvR l0 R p) p.c p.rev) (refuseP p) rfl
      have h2 := weight_send (tellR (srvR l0 R p) p.c p.rev) (refuseP p)
      have : wP (refuseP p) = 1 := rfl
      omega
    · omega
  rw [if_neg k1] at hE ⊢
  by_cases k2 : p.kind = 2
  · rw [if_pos k2] at hE ⊢
    have w1 : wP p = 400 := by unfold wP; rw [if_pos (.inr k2)]
    obtain ⟨i1, i2⟩ := pot_tellR R p.c p.rev
    obtain ⟨ta, tb, tc, td, te⟩ := tellR_keeps R p.c p.rev
    rw [tb] at hE
    rw [w1, if_pos (.inr k2)]
    omega
  rw [if_neg k2] at hE ⊢
  have hk : ¬ (p.kind = 1 ∨ p.kind = 2) := fun e => e.elim k1 k2
  have w1 : wP p = 1 := by unfold wP; rw [if_neg hk]
  have hs : ∀ S, potR (setC R p.c S) = potR R ∧ weightR (setC R p.c S).fl = weightR R.fl := fun S => ⟨rfl, rfl⟩
  rw [if_neg hk, w1]
  by_cases k3 : p.kind = 3
  · rw [if_pos k3]; have := hs (tkS p.c (clK R p.c).2 p.rev p.x.c p.x.i p.x.op); omega
  rw [if_neg k3]
  by_cases k4 : p.kind = 4
  · rw [if_pos k4]; have := hs (rfS (clK R p.c).2 p.id); omega
  · rw [if_neg k4]; omega
/-! until nothing is under way -/
theorem settle_nil (l0 : Int) (n : Nat) (R : Rm) (h : R.fl = []) : settleN l0 n R = R := by
  cases n with
  | zero => rfl
  | succ n => unfold settleN; rw [h]
theorem settle_step (l0 : Int) (n : Nat) (R : Rm) (p : Pk) (fl : List Pk) (h : R.fl = p :: fl) : settleN l0 (n + 1) R = settleN l0 n (comesR l0 { R with fl := fl } p) := by
  conv => lhs; unfold settleN
  rw [h]
theorem out_head {R : Rm} {p : Pk} {fl : List Pk} (h : R.fl = p :: fl) : outR R 0 = { R with fl := fl } := by
  unfold outR; rw [h]; rfl
theorem deliv_head {l0 : Int} {R : Rm} {p : Pk} {fl : List Pk} (h : R.fl = p :: fl) : delivR l0 R 0 = comesR l0 { R with fl := fl } p := by
  have e : R.fl[0]? = some p := by rw [h]; rfl
  unfold delivR
  rw [e, ← out_head h]
/-- All is kept until nothing is under way; then nothing is. -/
theorem Inv.settleM {l0 n : Int} : ∀ (m : Nat) (D : List (List UInt8)) (R : Rm), Inv l0 n D R → weightR R.fl ≤ m →
    ∃ D', Inv l0 n D' (settleN l0 m R) ∧ Ext D D' ∧ (settleN l0 m R).cl.length = R.cl.length ∧ (settleN l0 m R).fl = [] ∧ potR (settleN l0 m R) ≤ potR R ∧ ∀ m', weightR R.fl ≤ m' → settleN l0 m' R = settleN l0 m R
  | 0, D, R, h, hw => by
    have hf : R.fl = [] := by
      have := (weight_len R.fl).1
      exact List.eq_nil_of_length_eq_zero (by omega)
    exact ⟨D, h, Ext.refl D, rfl, hf, Nat.le_refl _, fun m' _ => settle_nil l0 m' R hf⟩
  | m + 1, D, R, h, hw => by
    cases hf : R.fl with
    | nil =>
      rw [settle_nil l0 (m + 1) R hf]
      exact ⟨D, h, Ext.refl D, rfl, hf, Nat.le_refl _, fun m' _ => settle_nil l0 m' R hf⟩
    | cons p fl =>
      have hp := h.pks p (by rw [hf]; simp)
      have ho := h.out 0
      rw [out_head hf] at ho
      obtain ⟨D1, i1, i2, i3, _, _⟩ := ho.comes (p := p) hp
      obtain ⟨q1, q2⟩ := pot_comes l0 { R with fl := fl } p i1.few
      have e1 : weightR R.fl = wP p + weightR fl := by rw [hf]; simp [weightR]
      have hwc : weightR (comesR l0 { R with fl := fl } p).fl ≤ m := by
        have : weightR ({ R with fl := fl } : Rm).fl = weightR fl := rfl
        omega
      obtain ⟨D2, j1, j2, j3, j4, j5, j6⟩ := Inv.settleM m D1 _ i1 hwc
      rw [settle_step l0 m R p fl hf]
      refine ⟨D2, j1, i2.trans j2, by rw [j3, i3], j4, ?_, fun m' hm' => ?_⟩
      · have e2 : potR ({ R with fl := fl } : Rm) + wP p = potR R := by
          unfold potR
          show R.n + R.lost + weightR fl + wP p = R.n + R.lost + weightR R.fl
          omega
        split at q1 <;> omega
      · have := wP_pos p
        rw [← hf] at hm'
        obtain ⟨m'', rfl⟩ : ∃ m'', m' = m'' + 1 := ⟨m' - 1, by omega⟩
        rw [settle_step l0 m'' R p fl hf]
        refine j6 m'' ?_
        have : weightR ({ R with fl := fl } : Rm).fl = weightR fl := rfl
        omega
theorem Inv.settle {l0 n : Int} {D : List (List UInt8)} {R : Rm} (h : Inv l0 n D R) : ∃ D', Inv l0 n D' (settleR l0 R) ∧ Ext D D' ∧ (settleR l0 R).cl.length = R.cl.length ∧ (settleR l0 R).fl = [] ∧ potR (settleR l0 R) ≤ potR R := by
  obtain ⟨D', a, b, c, d, e, _⟩ := Inv.settleM _ D R h (Nat.le_refl _)
  exact ⟨D', a, b, c, d, e⟩
/-- One more comes. -/
theorem Inv.stepM {l0 n : Int} {D : List (List UInt8)} {R : Rm} (h : Inv l0 n D R) (hf : R.fl ≠ []) : settleR l0 (delivR l0 R 0) = settleR l0 R ∧ weightR (delivR l0 R 0).fl < weightR R.fl := by
  cases hfl : R.fl with
  | nil => exact absurd hfl hf
  | cons p fl =>
    have hp := h.pks p (by rw [hfl]; simp)
    have ho := h.out 0
    rw [out_head hfl] at ho
    obtain ⟨D1, i1, i2, i3, _, _⟩ := ho.comes (p := p) hp
    obtain ⟨q1, q2⟩ := pot_comes l0 { R with fl := fl } p i1.few
    have e1 : weightR R.fl = wP p + weightR fl := by rw [hfl]; simp [weightR]
    have e2 : weightR ({ R with fl := fl } : Rm).fl = weightR fl := rfl
    rw [deliv_head hfl]
    refine ⟨?_, by rw [← hfl]; omega⟩
    unfold settleR
    obtain ⟨m, hm⟩ : ∃ m, weightR R.fl = m + 1 := ⟨weightR R.fl - 1, by have := wP_pos p; omega⟩
    have hwc : weightR (comesR l0 { R with fl := fl } p).fl ≤ m := by omega
    obtain ⟨D2, _, _, _, _, _, j6⟩ := Inv.settleM _ D1 _ i1 (Nat.le_refl (weightR (comesR l0 { R with fl := fl } p).fl))
    rw [hm, settle_step l0 m R p fl hfl]
    exact (j6 m hwc).symm
theorem Inv.quietM {l0 n : Int} : ∀ (m k : Nat) (D : List (List UInt8)) (R : Rm), Inv l0 n D R → k + m = R.cl.length → ∃ D', Inv l0 n D' (quietK l0 m k R) ∧ Ext D D' ∧ (quietK l0 m k R).cl.length = R.cl.length ∧ (R.fl = [] → (quietK l0 m k R).fl = []) ∧ potR (quietK l0 m k R) ≤ potR R + 400 * m
  | 0, k, D, R, h, _ => ⟨D, h, Ext.refl D, rfl, fun h => h, Nat.le_refl _⟩
  | m + 1, k, D, R, h, hk => by
    have h1 := h.sendK (k := k) (by omega)
    have hc : (sendC R k).cl.length = R.cl.length := by unfold sendC; rw [(send_keeps _ _).2.2.2.2]
    obtain ⟨D1, i1, i2, i3, i4, i5⟩ := h1.settle
    obtain ⟨D2, j1, j2, j3, j4, j5⟩ := Inv.quietM m (k + 1) D1 _ i1 (by rw [i3, hc]; omega)
    have hp := pot_sendAny R (askP R k)
    refine ⟨D2, j1, i2.trans j2, by show (quietK l0 m (k + 1) _).cl.length = _; rw [j3, i3, hc], fun _ => j4 i4, ?_⟩
    show potR (quietK l0 m (k + 1) _) ≤ _
    have hp : potR (sendC R k) ≤ potR R + 400 := hp
    omega
theorem Inv.quiet {l0 n : Int} {D : List (List UInt8)} {R : Rm} (h : Inv l0 n D R) : ∃ D', Inv l0 n D' (quietR l0 R) ∧ Ext D D' ∧ (quietR l0 R).cl.length = R.cl.length ∧ (quietR l0 R).fl = [] ∧ potR (quietR l0 R) ≤ potR R + 400 * R.cl.length := by
  obtain ⟨D1, i1, i2, i3, i4, i5⟩ := h.settle
  obtain ⟨D2, j1, j2, j3, j4, j5⟩ := Inv.quietM R.cl.length 0 D1 _ i1 (by rw [i3]; omega)
  exact ⟨D2, j1, i2.trans j2, by rw [show (quietR l0 R).cl.length = (quietK l0 R.cl.length 0 (settleR l0 R)).cl.length from rfl, j3, i3], j4 i4, by show potR (quietK l0 R.cl.length 0 (settleR l0 R)) ≤ _; omega⟩
end Go.Proofs.YtedgnlgjmnccgabGreatDoor
