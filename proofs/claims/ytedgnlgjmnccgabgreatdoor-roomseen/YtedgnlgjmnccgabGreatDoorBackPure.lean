/-
  Plain mathematics: halves there and back; runes there and back.
-/
import Derived.Test.YtedgnlgjmnccgabGreatDoorHalves
namespace Go.Proofs.YtedgnlgjmnccgabGreatDoor

def toI (l : List Nat) : List Int := l.map fun n : Nat => (n : Int)
theorem toI_append (a b : List Nat) : toI (a ++ b) = toI a ++ toI b := by simp [toI]

theorem valid_of_rune {r : Nat} (h : isRune r) : Lib.validRune (r : Int) = true := by
  unfold isRune at h
  unfold Lib.validRune
  apply decide_eq_true
  omega
theorem rune_of_valid {z : Int} (h : Lib.validRune z = true) : ∃ r : Nat, z = r ∧ isRune r := by
  have := of_decide_eq_true h
  exact ⟨z.toNat, by omega, by unfold isRune; omega⟩
theorem valid_toI {rs : List Nat} (h : ∀ r ∈ rs, isRune r) : ∀ z ∈ toI rs, Lib.validRune z = true := by
  intro z hz
  obtain ⟨r, hr, rfl⟩ := List.mem_map.1 hz
  exact valid_of_rune (h r hr)
theorem encZ_toI (rs : List Nat) : encZ (toI rs) = encs rs := by
  induction rs with
  | nil => rfl
  | cons r rs ih =>
    show Lib.encodeRune (r : Int) ++ encZ (toI rs) = enc r ++ encs rs
    rw [ih]; rfl

/-- A rune's halves, whatever stands behind them, are that rune. -/
theorem lead_hal {r : Nat} (h : isRune r) (t : List Int) : leadZ (toI (hal r) ++ t) = ((r : Int), (hal r).length) := by
  unfold isRune at h
  by_cases h1 : r < 65536
  · have e : hal r = [r] := by simp [hal, h1]
    rw [e]
    have hf : firstB (r : Int) = false := decide_eq_false (by omega)
    cases t with
    | nil => rfl
    | cons b t => simp [toI, leadZ, hf]
  · have e : hal r = [55296 + (r - 65536) / 1024, 56320 + (r - 65536) % 1024] := by simp [hal, h1]
    rw [e]
    have hf : firstB ((55296 + (r - 65536) / 1024 : Nat) : Int) = true := decide_eq_true (by omega)
    have hs : secondB ((56320 + (r - 65536) % 1024 : Nat) : Int) = true := decide_eq_true (by omega)
    show leadZ (((55296 + (r - 65536) / 1024 : Nat) : Int) :: ((56320 + (r - 65536) % 1024 : Nat) : Int) :: t) = _
    simp only [leadZ, hf, hs, Bool.and_self, if_true]
    refine Prod.ext ?_ rfl
    show (65536 + ((((55296 + (r - 65536) / 1024 : Nat) : Int) - 55296) * 1024 + (((56320 + (r - 65536) % 1024 : Nat) : Int) - 56320)) : Int) = (r : Int)
    omega

theorem hal_ne (r : Nat) : hal r ≠ [] := by unfold hal; split <;> simp
theorem hals_cons (r : Nat) (rs : List Nat) : hals (r :: rs) = hal r ++ hals rs := rfl

theorem scanH_hals : ∀ (rs : List Nat), (∀ r ∈ rs, isRune r) → scanH (toI (hals rs)) = (rs.map fun r : Nat => ((r : Int), (hal r).length), true)
  | [], _ => scanH_nil
  | r :: rs, h => by
    have hr := h r (by simp)
    have h1 := lead_hal hr (toI (hals rs))
    have e : toI (hals (r :: rs)) = toI (hal r) ++ toI (hals rs) := by rw [hals_cons, toI_append]
    have hne : toI (hals (r :: rs)) ≠ [] := by
      rw [e]
      intro c
      have := congrArg List.length c
      rw [List.length_append] at this
      have h0 : (hal r).length ≠ 0 := by simpa using hal_ne r
      simp [toI] at this
      exact hal_ne r this.1
    rw [← e] at h1
    rw [scanH_good hne (by rw [h1]; exact valid_of_rune hr), h1, e]
    have ed : (toI (hal r) ++ toI (hals rs)).drop (hal r).length = toI (hals rs) := List.drop_left' (by simp [toI])
    simp only [ed]
    rw [scanH_hals rs (fun x hx => h x (by simp [hx]))]
    rfl

/-- Halves that are a text are their runes' halves. -/
theorem hals_scanH (n : Nat) : ∀ (zs : List Int), zs.length ≤ n → (∀ z ∈ zs, 0 ≤ z ∧ z < 65536) → (scanH zs).2 = true →
    ∃ rs : List Nat, (scanH zs).1.map (·.1) = toI rs ∧ (∀ r ∈ rs, isRune r) ∧ zs = toI (hals rs) := by
  induction n with
  | zero =>
    intro zs hl _ _
    obtain rfl : zs = [] := by cases zs <;> simp_all
    rw [scanH_nil]; exact ⟨[], rfl, by simp, rfl⟩
  | succ n ih =>
    intro zs hl hb hg
    by_cases h : zs = []
    · subst h; rw [scanH_nil]; exact ⟨[], rfl, by simp, rfl⟩
    by_cases hv : Lib.validRune (leadZ zs).1 = true
    · rw [scanH_good h hv] at hg ⊢
      have w1 := leadZ_ge1 zs
      obtain ⟨rs, i1, i2, i3⟩ := ih (zs.drop (leadZ zs).2) (by rw [List.length_drop]; omega) (fun z hz => hb z (List.mem_of_mem_drop hz)) hg
      obtain ⟨r, e1, e2⟩ := rune_of_valid hv
      have key : zs.take (leadZ zs).2 = toI (hal r) := by
        match zs, h with
        | [a], _ =>
          have ha := hb a (by simp)
          simp only [leadZ] at e1 ⊢
          subst e1
          have : (r : Nat) < 65536 := by omega
          simp [hal, this, toI]
        | a :: b :: t, _ =>
          have ha := hb a (by simp)
          have hb' := hb b (by simp)
          by_cases c : (firstB a && secondB b) = true
          · have el : leadZ (a :: b :: t) = (65536 + ((a - 55296) * 1024 + (b - 56320)), 2) := by simp only [leadZ, c, if_true]
            rw [el] at e1 ⊢
            rw [Bool.and_eq_true] at c
            have c1 := of_decide_eq_true c.1
            have c2 := of_decide_eq_true c.2
            simp only [] at e1
            have hr : ¬ r < 65536 := by omega
            simp only [List.take_succ_cons, List.take_zero, hal, if_neg hr, toI, List.map_cons, List.map_nil]
            rw [show ((55296 + (r - 65536) / 1024 : Nat) : Int) = a by omega, show ((56320 + (r - 65536) % 1024 : Nat) : Int) = b by omega]
          · have el : leadZ (a :: b :: t) = (a, 1) := by simp only [leadZ, c]; rfl
            rw [el] at e1 ⊢
            simp only [] at e1
            subst e1
            have : (r : Nat) < 65536 := by omega
            simp [hal, this, toI]
      refine ⟨r :: rs, ?_, ?_, ?_⟩
      · rw [List.map_cons, i1, e1]; rfl
      · intro x hx
        rcases List.mem_cons.1 hx with rfl | hx
        · exact e2
        · exact i2 x hx
      · rw [hals_cons, toI_append, ← key, ← i3]
        exact (List.take_append_drop _ _).symm
    · rw [scanH_bad h (Bool.eq_false_iff.2 hv)] at hg
      cases hg

theorem hals_len (rs : List Nat) : (hals rs).length ≤ 2 * rs.length ∧ rs.length ≤ (hals rs).length := by
  induction rs with
  | nil => simp [hals]
  | cons r rs ih =>
    have h0 : (hal r).length ≠ 0 := by simpa using hal_ne r
    have h1 : (hal r).length ≤ 2 := by unfold hal; split <;> simp
    rw [hals_cons, List.length_append, List.length_cons]
    omega

/-- What is gathered over a text's runes. -/
theorem cells21_eq (l : List UInt8) : cellsOf21 (scan l).1 = (toI (runesOf l)).map (Value.int .i32) := by
  unfold cellsOf21 runesOf toI
  rw [List.map_map, List.map_map]
  rfl
theorem cells59_eq (l : List UInt8) : cellsOf59 (scan l).1 = (toI (hals (runesOf l))).map (Value.int .u16) := by
  unfold cellsOf59 runesOf hals toI
  generalize (scan l).1 = ps
  induction ps with
  | nil => rfl
  | cons p ps ih =>
    rw [List.flatMap_cons, ih, List.map_cons, List.flatMap_cons, List.map_append, List.map_append]
    congr 1
    unfold halCells
    rw [List.map_map]
    rfl
theorem toI_bd {rs : List Nat} (h : ∀ r ∈ rs, isRune r) : ∀ z ∈ toI rs, -2147483648 ≤ z ∧ z ≤ 2147483647 := by
  intro z hz
  obtain ⟨r, hr, rfl⟩ := List.mem_map.1 hz
  have := h r hr
  unfold isRune at this
  omega
theorem hals_bd {rs : List Nat} (h : ∀ r ∈ rs, isRune r) : ∀ z ∈ toI (hals rs), 0 ≤ z ∧ z < 65536 := by
  intro z hz
  obtain ⟨n, hn, rfl⟩ := List.mem_map.1 hz
  obtain ⟨r, hr, hn⟩ := List.mem_flatMap.1 hn
  have := h r hr
  unfold isRune at this
  unfold hal at hn
  split at hn
  · simp at hn; omega
  · simp at hn; omega
end Go.Proofs.YtedgnlgjmnccgabGreatDoor
