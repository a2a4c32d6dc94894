/-
  utf.Text and utf.FromHalves: what they return of any slice.
-/
import Derived.Test.YtedgnlgjmnccgabGreatDoorUtf
import Derived.Laws.IdiomStrings
import Derived.Lib.UnsafeStr
namespace Go.Proofs.YtedgnlgjmnccgabGreatDoor
open Go.RowKit

/-- The slice v reads as the numbers zs. -/
def reads (w : World) (k : IntKind) (v : Value) (zs : List Int) : Prop :=
  ∃ p c, v = .slice p zs.length c ∧ zs.length ≤ c ∧ c ≤ maxLen ∧ (zs ≠ [] → ∃ b o, p = some ⟨b, o, none⟩ ∧ b < w.heap.size ∧ ∀ i, i < zs.length → w.cell? ⟨b, o + i, none⟩ = some (.int k (zs.getD i 0)))
/-- 'string(b)' of bytes that the call owns. -/
theorem string_own {w : World} {B n : Nat} {v : Value} {l : List UInt8} (hn : n = l.length) (h : w.ownsRow B 5 1 v n (Lib.byteCells l)) : (convert 158 9 v).run Tryz.prog w = .ok (.string ⟨l.toArray⟩) w := by
  subst hn
  obtain ⟨h0, hrow⟩ := h
  rcases hrow with ⟨rfl, h2⟩ | ⟨g, cap, cur, rfl, h2, h3, h4, h5, h6, h7⟩
  · obtain rfl : l = [] := List.eq_nil_of_length_eq_zero h2
    kernel_rfl
  · refine run_convert_bytes_back w 158 9 5 ⟨g, 0, none⟩ cap l Tryz.underlying158 Tryz.underlying5 Tryz.underlying9 fun j hj => ?_
    rw [Nat.mul_one] at h7
    have hc : cur[j]? = some (.int .u8 (l[j].toNat : Int)) := by
      rw [← Array.getElem?_toList]
      have := congrArg (·[j]?) h7
      simp only [List.getElem?_take, hj, if_true, Lib.byteCells, List.getElem?_map] at this
      rw [this, List.getElem?_eq_getElem hj]
      rfl
    have ea : (⟨g, 0, none⟩ : Addr).add j = ⟨g, j, none⟩ := by simp [Addr.add] <;> omega
    rw [ea]
    unfold World.cell?
    simp [h3, hc]

/-- The bytes of numbers. -/
def encZ (zs : List Int) : List UInt8 := zs.flatMap Lib.encodeRune
theorem encZ_snoc (zs : List Int) (z : Int) : encZ (zs ++ [z]) = encZ zs ++ Lib.encodeRune z := by simp [encZ]
theorem encZ_len (zs : List Int) : (encZ zs).length ≤ 4 * zs.length := by
  induction zs with
  | nil => simp [encZ]
  | cons z zs ih =>
    have := Lib.runeCells_le z
    rw [Lib.runeCells_length] at this
    unfold encZ at ih ⊢
    rw [List.flatMap_cons, List.length_append, List.length_cons]
    omega

/-- Behind a rune's bytes. -/
theorem bytes_next {w w1 wr : World} {v v' : Value} {o : Obj} {zs : List Int} {z : Int} {B : Nat} (hB : B = w.heap.size) (hw : Below B w wr) (hown : wr.ownsRow B 5 1 v (encZ zs).length (Lib.byteCells (encZ zs)))
    (h1 : w1.ownsRow B 5 1 v' ((encZ zs).length + (Lib.runeCells z).length) (Lib.byteCells (encZ zs) ++ Lib.runeCells z)) (hg : (wr.alloc o).grownBy w1 v.ownBlock) :
    w1.ownsRow B 5 1 v' (encZ (zs ++ [z])).length (Lib.byteCells (encZ (zs ++ [z]))) ∧ Below B w w1 := by
  subst hB
  rw [encZ_snoc, List.length_append, Lib.byteCells_append, Lib.byteCells_encodeRune, ← Lib.runeCells_length]
  exact ⟨h1, (hw.alloc hw.size o).grown hg (by rw [World.size_alloc]; have := hw.size; omega) fun k hk => (hown.lt k hk).1⟩

theorem take_succ (zs : List Int) (k : Nat) (h : k < zs.length) : zs.take (k + 1) = zs.take k ++ [zs.getD k 0] := by
  rw [List.take_succ_eq_append_getElem h, List.getD_eq_getElem?_getD, List.getElem?_eq_getElem h]
  rfl

set_option maxHeartbeats 1000000 in
theorem Text_any (v : Value) (zs : List Int) (w : World) (hz : ∀ z ∈ zs, -2147483648 ≤ z ∧ z ≤ 2147483647) (hr : reads w .i32 v zs) (hl : zs.length < 100000000) :
    Calls Tryz.prog 101 #[v] w fun e w' => ∃ s x, e = .returned (.tuple #[.string s, x]) ∧ Below w.heap.size w w' ∧
      (((∀ z ∈ zs, Lib.validRune z = true) ∧ x = .nilIface ∧ s = ⟨(encZ zs).toArray⟩) ∨
       (∃ k : Nat, k < zs.length ∧ (∀ z ∈ zs.take k, Lib.validRune z = true) ∧ Lib.validRune (zs.getD k 0) = false ∧ s = ⟨#[]⟩ ∧ isAt w w' x k)) := by
  obtain ⟨p, c, rfl, r1, r2, r3⟩ := hr
  obtain ⟨n, hn⟩ : ∃ n, n = zs.length := ⟨_, rfl⟩
  rw [← hn] at r1 r3 hl ⊢
  have HN : Hid (n = zs.length) := hn
  clear hn
  have R3 : Hid (zs ≠ [] → ∃ b o, p = some ⟨b, o, none⟩ ∧ b < w.heap.size ∧ ∀ i, i < n → w.cell? ⟨b, o + i, none⟩ = some (.int .i32 (zs.getD i 0))) := r3
  have HZ : Hid (∀ z ∈ zs, -2147483648 ≤ z ∧ z ≤ 2147483647) := hz
  clear r3 hz
  go_enter Tryz.func101, Tryz.ntmps101
  go_wp2
  go_loopw [4, 9] (fun b i wr => ∃ k : Nat, k ≤ n ∧ i = .int .i64 k ∧ (∀ z ∈ zs.take k, Lib.validRune z = true) ∧ wr.ownsRow w.heap.size 5 1 b (encZ (zs.take k)).length (Lib.byteCells (encZ (zs.take k))) ∧ Below w.heap.size w wr) (fun _ i _ => n - (intOf i).toNat)
  case atStart => exact ⟨0, Nat.zero_le _, rfl, by simp, World.ownsRow_nil _ _ _ _, Below.refl _ _⟩
  case round =>
    obtain ⟨k, hk, rfl, hval, hown, hwr⟩ := hrel
    by_cases hlt : k < n
    · have hne : zs ≠ [] := by intro e; rw [HN.out, e] at hlt; exact absurd hlt (Nat.not_lt_zero _)
      obtain ⟨b, o, rfl, hbw, hcell⟩ := R3.out hne
      have hc := (hwr.cell (p := ⟨b, o + k, none⟩) hbw).trans (hcell k hlt)
      obtain ⟨z, hz⟩ : ∃ z, z = zs.getD k 0 := ⟨_, rfl⟩
      rw [← hz] at hc
      have hzr := HZ.out z (by rw [hz, List.getD_eq_getElem?_getD, List.getElem?_eq_getElem (by rw [← HN.out]; exact hlt)]; exact List.getElem_mem _)
      have hzk : Hid (z = zs.getD k 0) := hz
      have hts : Hid (zs.take (k + 1) = zs.take k ++ [z]) := by rw [hz]; exact take_succ zs k (by rw [← HN.out]; exact hlt)
      clear hz hcell hne
      have cV := Tryz.utf8_ValidRune z wr
      have hlen := encZ_len (zs.take k)
      rw [List.length_take] at hlen
      have hlen4 : (encZ (zs.take k)).length + 4 ≤ 140737488355328 := by omega
      have cA := Tryz.utf8_AppendRune_plain w.heap.size _ _ _ z hzr.1 hzr.2 wr hown hlen4 hwr.size
      clear hlen hlen4
      by_cases hv : Lib.validRune z = true
      · rw [hv] at cV
        have hval' : Hid (∀ y ∈ zs.take (k + 1), Lib.validRune y = true) := by
          show ∀ y ∈ zs.take (k + 1), Lib.validRune y = true
          rw [hts.out]
          intro y hy
          rcases List.mem_append.1 hy with hy | hy
          · exact hval y hy
          · rw [List.mem_singleton.1 hy]; exact hv
        have NX : Hid (∀ w1 v' o, w1.ownsRow w.heap.size 5 1 v' ((encZ (zs.take k)).length + (Lib.runeCells z).length) (Lib.byteCells (encZ (zs.take k)) ++ Lib.runeCells z) → (wr.alloc o).grownBy w1 u4.ownBlock →
            w1.ownsRow w.heap.size 5 1 v' (encZ (zs.take (k + 1))).length (Lib.byteCells (encZ (zs.take (k + 1)))) ∧ Below w.heap.size w w1) := by
          intro w1 v' o h1 hg
          rw [hts.out]
          exact bytes_next rfl hwr hown h1 hg
        clear hval hown hv hzk hts hzr R3 HZ
        go_wp2_with (first | (go_at_call 162; refine cV.mono ?_; rintro e wx ⟨rfl, rfl⟩) | (go_at_call 164; refine cA.mono ?_; rintro e w1 ⟨v', rfl, h1, o', hg⟩; have hnx := NX.out w1 v' o' h1 hg; clear h1 hg) | fail)
        go_roundw
        case rel => exact ⟨k + 1, by omega, by go_num, hval'.out, hnx.1, hnx.2⟩
        case measure => simp [intOf]; omega
      · have hv : Lib.validRune z = false := Bool.eq_false_iff.2 hv
        rw [hv] at cV
        have hfin : Hid (∀ y ∈ zs.take k, Lib.validRune y = true) := hval
        have hbad : Hid (Lib.validRune (zs.getD k 0) = false) := by rw [← hzk.out]; exact hv
        clear hval hown hv hzk hts hzr R3 HZ cA
        go_wp2_with (first | (go_at_call 162; refine cV.mono ?_; rintro e wx ⟨rfl, rfl⟩) | (go_at_call 163; refine (wrong_any _ _).mono ?_; rintro e w1 ⟨⟨x, rfl, hx⟩, hb1⟩) | fail)
        go_ret2
        refine ⟨_, _, rfl, hwr.trans (hb1.mono hwr.size), .inr ⟨k, hlt, hfin.out, hbad.out, rfl, isAt_from hx hwr.size⟩⟩
    · have e : zs.take k = zs := List.take_of_length_le (by rw [← HN.out]; omega)
      rw [e] at hval hown
      have hval' : Hid (∀ y ∈ zs, Lib.validRune y = true) := hval
      have hs := string_own rfl hown
      clear hval hown e R3 HZ
      go_wp2
      go_ret2
      refine ⟨_, _, rfl, hwr, .inl ⟨hval'.out, rfl, rfl⟩⟩
end Go.Proofs.YtedgnlgjmnccgabGreatDoor
