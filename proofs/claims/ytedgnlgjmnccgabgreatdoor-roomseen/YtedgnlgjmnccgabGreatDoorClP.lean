/-
  A client (pure): what it has of its own, over what it saw; what it is told, and what becomes of that.
-/
import Derived.Test.YtedgnlgjmnccgabGreatDoorShapeLaw
import Derived.Test.YtedgnlgjmnccgabGreatDoorKeep
import Derived.Test.YtedgnlgjmnccgabGreatDoorSrvPure
namespace Go.Proofs.YtedgnlgjmnccgabGreatDoor
set_option linter.unusedVariables false

structure Cl where
  seen : List UInt8
  doc : List UInt8
  rev : Int
  id : Int
  drops : Int
  mine : List (List Pt)
def allM : List (List Pt) → List UInt8 → List UInt8
  | [], t => t
  | m :: ms, t => allM ms (applyP m t)
def goodM : List (List Pt) → List UInt8 → Prop
  | [], _ => True
  | m :: ms, t => good m t ∧ goodM ms (applyP m t)
/-- Another one's operation over one's own, and these over it. -/
def turnM : List (List Pt) → List Pt → List (List Pt) × List Pt
  | [], x => ([], x)
  | m :: ms, x => (tellP (transS false m x) :: (turnM ms (tellP (transS true x m))).1, (turnM ms (tellP (transS true x m))).2)
theorem turnM_len : ∀ (ms : List (List Pt)) (x : List Pt), (turnM ms x).1.length = ms.length
  | [], _ => rfl
  | m :: ms, x => by rw [turnM, List.length_cons, List.length_cons, turnM_len ms]
theorem turnM_good : ∀ (ms : List (List Pt)) (x : List Pt) (t : List UInt8), good x t → goodM ms t →
    goodM (turnM ms x).1 (applyP x t) ∧ good (turnM ms x).2 (allM ms t) ∧ applyP (turnM ms x).2 (allM ms t) = allM (turnM ms x).1 (applyP x t)
  | [], x, t, hx, _ => ⟨trivial, hx, rfl⟩
  | m :: ms, x, t, hx, h => by
    obtain ⟨hm, hms⟩ := h
    have g1 := (good_trans false hm hx).1
    have g2 := (good_trans true hx hm).1
    have e := trans_meets true hx hm
    obtain ⟨i1, i2, i3⟩ := turnM_good ms _ _ g2 hms
    have e : applyP (tellP (transS false m x)) (applyP x t) = applyP (tellP (transS true x m)) (applyP m t) := e
    refine ⟨⟨g1, ?_⟩, i2, ?_⟩
    · rw [e]; exact i1
    · show _ = allM (turnM ms (tellP (transS true x m))).1 (applyP (tellP (transS false m x)) (applyP x t))
      rw [e]; exact i3
theorem turnM_puts (B : Nat) : ∀ (ms : List (List Pt)) (x : List Pt) (t : List UInt8), good x t → goodM ms t → (∀ m ∈ ms, putsP m ≤ B) → t.length + putsP x + ms.length * B < 900000 → B ≤ 100000 →
    (∀ m ∈ (turnM ms x).1, putsP m ≤ B) ∧ putsP (turnM ms x).2 = putsP x
  | [], x, t, _, _, _, _, _ => ⟨(fun m h => by cases h), rfl⟩
  | m :: ms, x, t, hx, h, hp, hb, hB => by
    obtain ⟨hm, hms⟩ := h
    have hpm := hp m (by simp)
    have e0 : (m :: ms).length * B = ms.length * B + B := by rw [List.length_cons, Nat.succ_mul]
    rw [e0] at hb
    have h1 : t.length + putsP m < 1000000 := by omega
    have h2 : t.length + putsP x < 1000000 := by omega
    have g2 := (good_trans true hx hm).1
    have k1 := (trans_what false hm hx h1 h2).1
    have k2 := (trans_what true hx hm h2 h1).1
    have hl := apply_le hm
    obtain ⟨i1, i2⟩ := turnM_puts B ms _ _ g2 hms (fun y hy => hp y (by simp [hy])) (by rw [k2]; omega) hB
    refine ⟨fun y hy => ?_, i2.trans k2⟩
    rcases List.mem_cons.1 hy with rfl | hy
    · rw [k1]; exact hpm
    · exact i1 y hy
theorem allM_V : ∀ (ms : List (List Pt)) (t : List UInt8), V t → goodM ms t → V (allM ms t)
  | [], _, h, _ => h
  | m :: ms, t, h, hg => allM_V ms _ (apply_V hg.1.al) hg.2
theorem allM_len (B : Nat) : ∀ (ms : List (List Pt)) (t : List UInt8), goodM ms t → (∀ m ∈ ms, putsP m ≤ B) → (allM ms t).length ≤ t.length + ms.length * B
  | [], _, _, _ => by simp [allM]
  | m :: ms, t, hg, hp => by
    have i := allM_len B ms _ hg.2 fun y hy => hp y (by simp [hy])
    have := apply_le hg.1
    have := hp m (by simp)
    rw [List.length_cons, Nat.succ_mul]
    have e : allM (m :: ms) t = allM ms (applyP m t) := rfl
    rw [e]; omega
/-- What a client keeps. -/
structure okK (B : Nat) (S : Cl) : Prop where
  text : V S.seen
  all : goodM S.mine S.seen
  doc : S.doc = allM S.mine S.seen
  two : S.mine.length ≤ 2
  puts : ∀ m ∈ S.mine, putsP m ≤ B
theorem okK.V {B : Nat} {S : Cl} (h : okK B S) : Go.Proofs.YtedgnlgjmnccgabGreatDoor.V S.doc := by rw [h.doc]; exact allM_V _ _ h.text h.all
theorem okK.len {B : Nat} {S : Cl} (h : okK B S) : S.doc.length ≤ S.seen.length + 2 * B := by
  rw [h.doc]
  have h1 := allM_len B _ _ h.all h.puts
  have h2 := Nat.mul_le_mul_right B h.two
  omega
theorem okK.more {B B' : Nat} {S : Cl} (h : okK B S) (hb : B ≤ B') : okK B' S := ⟨h.text, h.all, h.doc, h.two, fun m hm => Nat.le_trans (h.puts m hm) hb⟩

/-! Edit -/
def addM (o : List Pt) : List (List Pt) → List (List Pt)
  | [] => [o]
  | [m] => [m, o]
  | m :: m2 :: _ => [m, tellP (compS m2 o)]
def muchP (p : Pt) : Bool := decide (200 < p.put.length)
def edO (u : Int) (S : Cl) (q : List Pt) : List Pt := tzO (runesOf S.doc) u 1 q
def edE (u : Int) (S : Cl) (q : List Pt) : Int :=
  if 60 < q.length ∨ q.any muchP = true then 4 else if tzE (runesOf S.doc) u 1 q ≠ 0 then tzE (runesOf S.doc) u 1 q
  else if 2000 < (applyP (edO u S q) S.doc).length then 12 else 0
def edS (u : Int) (S : Cl) (q : List Pt) : Cl := if edE u S q = 0 then { S with doc := applyP (edO u S q) S.doc, mine := addM (edO u S q) S.mine, id := if S.mine = [] then S.id + 1 else S.id } else S
theorem add_good (o : List Pt) : ∀ (ms : List (List Pt)) (t : List UInt8), ms.length ≤ 2 → goodM ms t → good o (allM ms t) → goodM (addM o ms) t ∧ allM (addM o ms) t = applyP o (allM ms t) ∧ (addM o ms).length ≤ 2
  | [], t, _, _, ho => ⟨⟨ho, trivial⟩, rfl, by simp [addM]⟩
  | [m], t, _, h, ho => ⟨⟨h.1, ho, trivial⟩, rfl, by simp [addM]⟩
  | [m, m2], t, _, h, ho => by
    obtain ⟨c1, c2⟩ := good_comp h.2.1 ho
    exact ⟨⟨h.1, c1, trivial⟩, c2, by simp [addM]⟩
  | _ :: _ :: _ :: _, _, h, _, _ => by simp at h
theorem ed_fine {u : Int} (hu : unitOk u) {S : Cl} (h : okK 2000 S) {q : List Pt} (he : tzE (runesOf S.doc) u 1 q = 0) : good (edO u S q) S.doc ∧ okZ u (runesOf S.doc) q = true ∧ chkE q (by_ u (runesOf S.doc)) = 0 ∧ edO u S q = inZ u 1 (runesOf S.doc) q := by
  have hd : encs (runesOf S.doc) = S.doc := encs_runesOf (V_scan h.V)
  obtain ⟨h1, _, _, _, _, h6, h7, h8⟩ := sh_fine hu (fun r hr => runesOf_rune hr) he
  rw [hd] at h1
  exact ⟨h1, h7, h6, h8⟩
theorem ed_no {u : Int} {S : Cl} {q : List Pt} (h : edE u S q = 0) : ¬ (60 < q.length ∨ q.any muchP = true) ∧ tzE (runesOf S.doc) u 1 q = 0 ∧ (applyP (edO u S q) S.doc).length ≤ 2000 := by
  unfold edE at h
  split at h
  · cases h
  rename_i h1
  split at h
  · rename_i h2; exact absurd h h2
  rename_i h2
  split at h
  · cases h
  exact ⟨h1, by simpa using h2, by omega⟩
theorem okK_edit {u : Int} (hu : unitOk u) {S : Cl} (h : okK 2000 S) (q : List Pt) : okK 2000 (edS u S q) := by
  unfold edS
  by_cases he : edE u S q = 0
  · rw [if_pos he]
    obtain ⟨h1, h2, h3⟩ := ed_no he
    obtain ⟨g1, _⟩ := ed_fine hu h h2
    rw [h.doc] at g1
    obtain ⟨a1, a2, a3⟩ := add_good (edO u S q) S.mine S.seen h.two h.all g1
    have hp : putsP (edO u S q) ≤ 2000 := by
      have := puts_le g1
      rw [← h.doc] at this; omega
    refine ⟨h.text, a1, by rw [a2, ← h.doc], a3, ?_⟩
    show ∀ m ∈ addM (edO u S q) S.mine, putsP m ≤ 2000
    have hal := h.all
    have hpu := h.puts
    have h2' := h.two
    have hdoc := h.doc
    have a2 : allM (addM (edO u S q) S.mine) S.seen = applyP (edO u S q) S.doc := by rw [a2, ← h.doc]
    rcases hm : S.mine with _ | ⟨m, _ | ⟨m2, _ | ⟨m3, ms⟩⟩⟩
    · intro y hy; simp only [addM, List.mem_singleton] at hy; rw [hy]; exact hp
    · intro y hy
      rw [hm] at hpu
      simp only [addM, List.mem_cons, List.not_mem_nil, or_false] at hy
      rcases hy with rfl | rfl
      · exact hpu _ (by simp)
      · exact hp
    · rw [hm] at hpu hal a1 a2
      intro y hy
      simp only [addM, List.mem_cons, List.not_mem_nil, or_false] at hy
      rcases hy with rfl | rfl
      · exact hpu _ (by simp)
      · have g := a1.2.1
        have := puts_le g
        have e : applyP (tellP (compS m2 (edO u S q))) (applyP m S.seen) = applyP (edO u S q) S.doc := a2
        rw [e] at this; omega
    · rw [hm] at h2'; simp at h2'
  · rw [if_neg he]; exact h

/-! Take -/
abbrev isOwn (who : Int) (S : Cl) (c i : Int) : Prop := S.mine ≠ [] ∧ c = who ∧ i = S.id
def headM (S : Cl) : List Pt := S.mine.headD []
def tkE (who : Int) (S : Cl) (rev c i : Int) (x : List Pt) : Int :=
  if rev ≠ S.rev then 0 else if ordE x S.seen ≠ 0 then 15 else if isOwn who S c i ∧ applyP (headM S) S.seen ≠ applyP x S.seen then 15 else 0
def tkS (who : Int) (S : Cl) (rev c i : Int) (x : List Pt) : Cl :=
  if rev ≠ S.rev ∨ tkE who S rev c i x ≠ 0 then S
  else if isOwn who S c i then { S with seen := applyP x S.seen, rev := S.rev + 1, mine := S.mine.tail, id := if S.mine.tail ≠ [] then S.id + 1 else S.id }
  else { S with seen := applyP x S.seen, rev := S.rev + 1, mine := (turnM S.mine x).1, doc := applyP (turnM S.mine x).2 S.doc }
theorem tk_no {who : Int} {S : Cl} {rev c i : Int} {x : List Pt} (h : ¬ (rev ≠ S.rev ∨ tkE who S rev c i x ≠ 0)) : rev = S.rev ∧ ordE x S.seen = 0 ∧ (isOwn who S c i → applyP (headM S) S.seen = applyP x S.seen) := by
  have h1 : rev = S.rev := by
    by_cases e : rev = S.rev
    · exact e
    · exact absurd (.inl e) h
  have h2 : tkE who S rev c i x = 0 := by
    by_cases e : tkE who S rev c i x = 0
    · exact e
    · exact absurd (.inr e) h
  unfold tkE at h2
  rw [if_neg (by simpa using h1)] at h2
  split at h2
  · cases h2
  rename_i h3
  split at h2
  · cases h2
  rename_i h4
  refine ⟨h1, by simpa using h3, fun ho => ?_⟩
  by_cases e : applyP (headM S) S.seen = applyP x S.seen
  · exact e
  · exact absurd ⟨ho, e⟩ h4
theorem okK_take {who : Int} {S : Cl} (h : okK 2000 S) (rev c i : Int) (x : List Pt) (hs : S.seen.length + putsP x ≤ 500000) : okK 2000 (tkS who S rev c i x) := by
  unfold tkS
  by_cases hn : rev ≠ S.rev ∨ tkE who S rev c i x ≠ 0
  · rw [if_pos hn]; exact h
  rw [if_neg hn]
  obtain ⟨h1, h2, h3⟩ := tk_no hn
  have hx := good_of_ord h.text h2
  by_cases ho : isOwn who S c i
  · rw [if_pos ho]
    have h3 := h3 ho
    have hal := h.all; have hpu := h.puts; have htw := h.two; have hd := h.doc
    have hm := ho.1
    unfold headM at h3
    rcases hm' : S.mine with _ | ⟨m, ms⟩
    · exact absurd hm' hm
    · rw [hm'] at hal hpu htw h3 hd
      have h3 : applyP m S.seen = applyP x S.seen := h3
      refine ⟨apply_V hx.al, ?_, ?_, ?_, fun y hy => hpu y (List.mem_cons_of_mem _ hy)⟩
      · show goodM ms (applyP x S.seen)
        rw [← h3]; exact hal.2
      · show S.doc = allM ms (applyP x S.seen)
        rw [← h3]; exact hd
      · show ms.length ≤ 2
        simp at htw; omega
  · rw [if_neg ho]
    obtain ⟨t1, t2, t3⟩ := turnM_good S.mine x S.seen hx h.all
    obtain ⟨p1, p2⟩ := turnM_puts 2000 S.mine x S.seen hx h.all h.puts (by have := Nat.mul_le_mul_right 2000 h.two; omega) (by omega)
    refine ⟨apply_V hx.al, t1, ?_, ?_, p1⟩
    · show applyP (turnM S.mine x).2 S.doc = _
      rw [h.doc]; exact t3
    · show (turnM S.mine x).1.length ≤ 2
      rw [turnM_len]; exact h.two
/-! Refused -/
def rfS (S : Cl) (i : Int) : Cl := if S.mine ≠ [] ∧ i = S.id then { S with mine := [], doc := S.seen, drops := S.drops + 1 } else S
theorem okK_refuse {S : Cl} (h : okK 2000 S) (i : Int) : okK 2000 (rfS S i) := by
  unfold rfS
  split
  · exact ⟨h.text, trivial, rfl, by simp, fun m hm => by cases hm⟩
  · exact h
theorem good_head {S : Cl} (h : okK 2000 S) (hm : S.mine ≠ []) : good (headM S) S.seen ∧ putsP (headM S) ≤ 2000 := by
  unfold headM
  have hal := h.all; have hpu := h.puts
  rcases hm' : S.mine with _ | ⟨m, ms⟩
  · exact absurd hm' hm
  · rw [hm'] at hal hpu
    exact ⟨hal.1, hpu m (by simp)⟩
end Go.Proofs.YtedgnlgjmnccgabGreatDoor
