/-
  Two operations that are as long go side by side to their end (pure).
-/
import Derived.Test.YtedgnlgjmnccgabGreatDoorOpsSideW
import Derived.Test.YtedgnlgjmnccgabGreatDoorOpsCompQ
namespace Go.Proofs.YtedgnlgjmnccgabGreatDoor
set_option linter.unusedVariables false

def measP (la : Pt → Bool) (A : List Pt) : Int := (A.map fun p => if la p then 0 else lengthP p).sum
theorem meas_cons (la : Pt → Bool) (p : Pt) (A : List Pt) : measP la (p :: A) = (if la p then 0 else lengthP p) + measP la A := by simp [measP]
theorem meas_append (la : Pt → Bool) (A B : List Pt) : measP la (A ++ B) = measP la A + measP la B := by simp [measP]
theorem meas_nonneg (la : Pt → Bool) : ∀ (A : List Pt), (∀ p ∈ A, oneP p) → 0 ≤ measP la A
  | [], _ => by simp [measP]
  | p :: A, h => by
    have h1 := length_pos (h p (by simp))
    have h2 := meas_nonneg la A fun q hq => h q (by simp [hq])
    rw [meas_cons]
    split <;> omega
def kindOk (la : Pt → Bool) : Prop := ∀ p (n : Int), oneP p → la p = false → ∀ r ∈ (cutP p n).2, la r = false
theorem kind_put : kindOk isPutP := by
  intro p n hp hl r hr
  have hu : p.put = [] := by simpa [isPutP] using hl
  unfold cutP at hr
  split at hr
  · cases hr
  · split at hr
    · obtain rfl := List.mem_singleton.1 hr; simp [isPutP, hu]
    · split at hr
      · obtain rfl := List.mem_singleton.1 hr; simp [isPutP, hu]
      · obtain rfl := List.mem_singleton.1 hr; simp [isPutP, hu]
theorem kind_drop : kindOk isDropP := by
  intro p n hp hl r hr
  have hu : ¬ 0 < p.drop := by simpa [isDropP] using hl
  unfold cutP at hr
  split at hr
  · cases hr
  · split at hr
    · obtain rfl := List.mem_singleton.1 hr; simpa [isDropP] using hu
    · obtain rfl := List.mem_singleton.1 hr; simpa [isDropP] using hu
def okX (x : Pt × Pt) : Prop := (oneP x.1 ∨ x.1 = noP) ∧ (oneP x.2 ∨ x.2 = noP)
def pairW (l : List (Pt × Pt)) : Int := (l.map fun x => lengthP x.1 + lengthP x.2).sum
theorem meas_cut {la : Pt → Bool} (hk : kindOk la) {p : Pt} (hp : oneP p) (hl : la p = false) {n : Nat} (h0 : 0 < n) (hn : (n : Int) ≤ lengthP p) (A : List Pt) : measP la (p :: A) = n + measP la ((cutP p n).2 ++ A) := by
  rw [meas_cons, meas_append, if_neg (by rw [hl]; simp)]
  obtain ⟨c1, c2, c3, c4⟩ := cut_one hp (n := n) (by omega) hn
  have hkk := hk p n hp hl
  have hlen : (cutP p n).2.length ≤ 1 := by
    unfold cutP
    split
    · simp
    · split
      · simp
      · split <;> simp
  generalize (cutP p n).2 = R at *
  match R, hlen with
  | [], _ => have := c4.1 rfl; simp [measP]; omega
  | [r], _ =>
    have h1 := c3 r (by simp)
    have h2 := hkk r (by simp)
    simp only [measP, List.map_cons, List.map_nil, List.sum_cons, List.sum_nil, h2]
    simp
    omega
theorem side_ok {la lb : Pt → Bool} (hka : kindOk la) (hkb : kindOk lb) : ∀ (f : Nat) (A B : List Pt), (∀ p ∈ A, oneP p ∧ lengthP p < 1000000000) → (∀ p ∈ B, oneP p ∧ lengthP p < 1000000000) → measP la A = measP lb B → weight A + weight B ≤ f →
    Side la lb A B (sideP la lb f A B) ∧ (∀ x ∈ sideP la lb f A B, okX x) ∧ pairW (sideP la lb f A B) = weight A + weight B ∧ (sideP la lb f A B).length ≤ weight A + weight B := by
  have hnil : ∀ (l : List Pt), (∀ p ∈ l, oneP p ∧ lengthP p < 1000000000) → weight l = 0 → l = [] := by
    intro l hl hw
    cases l with
    | nil => rfl
    | cons p l =>
      have := length_pos (hl p (by simp)).1
      rw [weight_cons] at hw
      omega
  have hlen0 : lengthP noP = 0 := by simp [lengthP, noP]
  have hw0 : weight [] = 0 := by simp [weight]
  have hpw : ∀ x l, pairW (x :: l) = lengthP x.1 + lengthP x.2 + pairW l := by intro x l; simp [pairW]
  intro f
  induction f with
  | zero =>
    intro A B ha hb _ hw
    obtain rfl := hnil A ha (by omega)
    obtain rfl := hnil B hb (by omega)
    exact ⟨.nil, by simp [sideP], by simp [sideP, pairW, weight], by simp [sideP]⟩
  | succ f ih =>
    intro A B ha hb hm hw
    cases A with
    | nil =>
      cases B with
      | nil => exact ⟨.nil, by simp [sideP], by simp [sideP, pairW, weight], by simp [sideP]⟩
      | cons q B =>
        have hq := (hb q (by simp)).1
        have hq0 := length_pos hq
        have hb' : ∀ p ∈ B, oneP p ∧ lengthP p < 1000000000 := fun p hp => hb p (by simp [hp])
        have hn2 := meas_nonneg lb B fun p hp => (hb' p hp).1
        have hm' : (0 : Int) = measP lb (q :: B) := hm
        rw [meas_cons] at hm'
        have hl : lb q = true := by
          cases h : lb q with
          | true => rfl
          | false => rw [h] at hm'; simp at hm'; omega
        rw [hl] at hm'
        have e : sideP la lb (f + 1) [] (q :: B) = (noP, q) :: sideP la lb f [] B := by rw [sideP, if_pos hl]
        rw [weight_cons] at hw
        obtain ⟨i1, i2, i3, i4⟩ := ih [] B (by simp) hb' (by simpa [measP] using hm') (by omega)
        rw [e, weight_cons, hpw]
        refine ⟨.last hl i1, ?_, by simp only [hlen0]; omega, by simp only [List.length_cons]; omega⟩
        intro x hx
        rcases List.mem_cons.1 hx with rfl | hx
        · exact ⟨.inr rfl, .inl hq⟩
        · exact i2 x hx
    | cons p A =>
      have hp := (ha p (by simp)).1
      have hp0 := length_pos hp
      have ha' : ∀ p ∈ A, oneP p ∧ lengthP p < 1000000000 := fun q hq => ha q (by simp [hq])
      cases hl : la p with
      | true =>
        have e : sideP la lb (f + 1) (p :: A) B = (p, noP) :: sideP la lb f A B := by cases B <;> (rw [sideP]; rw [if_pos hl])
        rw [meas_cons, hl] at hm
        rw [weight_cons] at hw
        obtain ⟨i1, i2, i3, i4⟩ := ih A B ha' hb (by simpa using hm) (by omega)
        rw [e, weight_cons, hpw]
        refine ⟨.left hl i1, ?_, by simp only [hlen0]; omega, by simp only [List.length_cons]; omega⟩
        intro x hx
        rcases List.mem_cons.1 hx with rfl | hx
        · exact ⟨.inl hp, .inr rfl⟩
        · exact i2 x hx
      | false =>
        have hn1 := meas_nonneg la A fun p hp => (ha' p hp).1
        cases B with
        | nil =>
          rw [meas_cons, hl] at hm
          simp [measP] at hm
          unfold measP at hn1
          omega
        | cons q B =>
          have hq := (hb q (by simp)).1
          have hq0 := length_pos hq
          have hb' : ∀ p ∈ B, oneP p ∧ lengthP p < 1000000000 := fun p hp => hb p (by simp [hp])
          cases hlq : lb q with
          | true =>
            have e : sideP la lb (f + 1) (p :: A) (q :: B) = (noP, q) :: sideP la lb f (p :: A) B := by rw [sideP, if_neg (by rw [hl]; simp), if_pos hlq]
            rw [meas_cons lb, hlq] at hm
            rw [weight_cons q] at hw
            obtain ⟨i1, i2, i3, i4⟩ := ih (p :: A) B ha hb' (by simpa using hm) (by omega)
            rw [e, weight_cons q, hpw]
            refine ⟨.right hl hlq i1, ?_, by simp only [hlen0]; omega, by simp only [List.length_cons]; omega⟩
            intro x hx
            rcases List.mem_cons.1 hx with rfl | hx
            · exact ⟨.inr rfl, .inl hq⟩
            · exact i2 x hx
          | false =>
            obtain ⟨k, hk⟩ : ∃ k : Nat, min (lengthP p) (lengthP q) = (k : Int) := ⟨(min (lengthP p) (lengthP q)).toNat, by omega⟩
            have e : sideP la lb (f + 1) (p :: A) (q :: B) = ((cutP p k).1, (cutP q k).1) :: sideP la lb f ((cutP p k).2 ++ A) ((cutP q k).2 ++ B) := by
              rw [sideP, if_neg (by rw [hl]; simp), if_neg (by rw [hlq]; simp), hk]
            have k0 : 0 < k := by omega
            have kp : (k : Int) ≤ lengthP p := by omega
            have kq : (k : Int) ≤ lengthP q := by omega
            have w1 := (cut_weigh hp k0 kp A).1
            have w2 := (cut_weigh hq k0 kq B).1
            have m1 := meas_cut hka hp hl k0 kp A
            have m2 := meas_cut hkb hq hlq k0 kq B
            obtain ⟨c1, c2, c3, _⟩ := cut_one hp (n := k) (by omega) kp
            obtain ⟨d1, d2, d3, _⟩ := cut_one hq (n := k) (by omega) kq
            have bp := (ha p (by simp)).2
            have bq := (hb q (by simp)).2
            obtain ⟨i1, i2, i3, i4⟩ := ih ((cutP p k).2 ++ A) ((cutP q k).2 ++ B) (fun x hx => by
              rcases List.mem_append.1 hx with hx | hx
              · exact ⟨(c3 x hx).1, by rw [(c3 x hx).2]; omega⟩
              · exact ha' x hx) (fun x hx => by
              rcases List.mem_append.1 hx with hx | hx
              · exact ⟨(d3 x hx).1, by rw [(d3 x hx).2]; omega⟩
              · exact hb' x hx) (by omega) (by omega)
            rw [e, hpw]
            refine ⟨.both k hl hlq hp hq k0 hk bp bq i1, ?_, by simp only [c2, d2]; omega, by simp only [List.length_cons]; omega⟩
            intro x hx
            rcases List.mem_cons.1 hx with rfl | hx
            · exact ⟨.inl c1, .inl d1⟩
            · exact i2 x hx

/-- What is taken of a pair: one part at most, no heavier than the pair. -/
def takeOk (t : Pt × Pt → List Pt) : Prop := ∀ x, okX x → (t x).length ≤ 1 ∧ ∀ p ∈ t x, soundP p ∧ wtP p ≤ lengthP x.1 + lengthP x.2
theorem part_ok {p : Pt} (h : oneP p ∨ p = noP) : soundP p ∧ wtP p = lengthP p ∧ 0 ≤ lengthP p ∧ (p.put.length : Int) ≤ lengthP p := by
  rcases h with h | rfl
  · have h1 := ones_sound (ps := [p]) (by simpa using h) p (by simp)
    refine ⟨h1, rfl, by have := length_pos h; omega, ?_⟩
    unfold lengthP; omega
  · exact ⟨⟨by simp [noP], by simp [noP]⟩, rfl, by simp [lengthP, noP], by simp [lengthP, noP]⟩
theorem take_turn : takeOk turnP := by
  intro x ⟨h1, h2⟩
  obtain ⟨a1, a2, a3, a4⟩ := part_ok h1
  obtain ⟨b1, b2, b3, b4⟩ := part_ok h2
  unfold turnP
  split
  · refine ⟨by simp, fun p hp => ?_⟩
    obtain rfl := List.mem_singleton.1 hp
    refine ⟨⟨by simp, by simp⟩, ?_⟩
    simp only [wtP, List.length_nil]
    omega
  · split
    · refine ⟨by simp, fun p hp => ?_⟩
      obtain rfl := List.mem_singleton.1 hp
      exact ⟨a1, by omega⟩
    · exact ⟨by simp, by simp⟩
theorem take_turn2 : takeOk fun x => turnP (x.2, x.1) := by
  intro x ⟨h1, h2⟩
  have := take_turn (x.2, x.1) ⟨h2, h1⟩
  exact ⟨this.1, fun p hp => ⟨(this.2 p hp).1, by have := (this.2 p hp).2; simp only at this; omega⟩⟩
theorem take_comp : takeOk compP := by
  intro x ⟨h1, h2⟩
  obtain ⟨a1, a2, a3, a4⟩ := part_ok h1
  obtain ⟨b1, b2, b3, b4⟩ := part_ok h2
  unfold compP
  split
  · refine ⟨by simp, fun p hp => ?_⟩
    obtain rfl := List.mem_singleton.1 hp
    exact ⟨a1, by omega⟩
  · split
    · refine ⟨by simp, fun p hp => ?_⟩
      obtain rfl := List.mem_singleton.1 hp
      exact ⟨b1, by omega⟩
    · exact ⟨by simp, by simp⟩
theorem take_wts {t : Pt × Pt → List Pt} (ht : takeOk t) : ∀ (l : List (Pt × Pt)), (∀ x ∈ l, okX x) → wts (l.flatMap t) ≤ pairW l
  | [], _ => by simp [wts, pairW]
  | x :: l, h => by
    have ih := take_wts ht l fun y hy => h y (by simp [hy])
    obtain ⟨h1, h2⟩ := ht x (h x (by simp))
    have hx := h x (by simp)
    obtain ⟨_, _, a3, _⟩ := part_ok hx.1
    obtain ⟨_, _, b3, _⟩ := part_ok hx.2
    have e : pairW (x :: l) = lengthP x.1 + lengthP x.2 + pairW l := by simp [pairW]
    have e2 : wts (t x) ≤ lengthP x.1 + lengthP x.2 := by
      generalize t x = L at *
      match L, h1 with
      | [], _ => simp [wts]; omega
      | [p], _ => have := (h2 p (by simp)).2; simpa [wts] using this
    rw [List.flatMap_cons, e]
    unfold wts at ih e2 ⊢
    rw [List.map_append, List.sum_append]
    omega
theorem bdS_of {t : Pt × Pt → List Pt} (ht : takeOk t) {l : List (Pt × Pt)} (h : ∀ x ∈ l, okX x) (hw : pairW l < 1000000000) (hl : l.length < 10000000) : BdS t l nst0 0 0 :=
  ⟨bd0, by have := take_wts ht l h; omega, by omega, fun x hx p hp => ((ht x (h x hx)).2 p hp).1, fun x hx => (ht x (h x hx)).1⟩
end Go.Proofs.YtedgnlgjmnccgabGreatDoor
