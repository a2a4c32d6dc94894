/-
  The document's own in, Rune, Bytes, Bare, Text: what they return.
-/
import Derived.Test.YtldhbjmillfjgabGreatDoorHalves
import Derived.Test.YtldhbjmillfjgabGreatDoorBackPure
import Derived.Deep.RegionWith
namespace Go.Proofs.YtldhbjmillfjgabGreatDoor
open Go.RowKit
set_option linter.unusedVariables false

def inB (n lo hi : Int) : Bool := decide (lo ≤ n ∧ n ≤ hi)

set_option maxHeartbeats 400000 in
theorem in_any (n lo hi : Int) (w : World) : Calls Tryz.prog 61 #[.int .i64 n, .int .i64 lo, .int .i64 hi] w fun e w' => e = .returned (.bool (inB n lo hi)) ∧ w' = w := by
  by_cases h1 : lo ≤ n
  · by_cases h2 : n ≤ hi
    · have e : inB n lo hi = true := decide_eq_true ⟨h1, h2⟩
      rw [e]; clear e
      go_enter Tryz.func61, Tryz.ntmps61
      go_wp2
      go_ret
      exact ⟨rfl, rfl⟩
    · have e : inB n lo hi = false := decide_eq_false fun c => h2 c.2
      rw [e]; clear e
      go_enter Tryz.func61, Tryz.ntmps61
      go_wp2
      go_ret
      exact ⟨rfl, rfl⟩
  · have e : inB n lo hi = false := decide_eq_false fun c => h1 c.1
    rw [e]; clear e
    go_enter Tryz.func61, Tryz.ntmps61
    go_wp2
    go_ret
    exact ⟨rfl, rfl⟩

set_option maxHeartbeats 400000 in
theorem Rune_any (r : Int) (h0 : -2147483648 ≤ r) (h1 : r ≤ 2147483647) (w : World) : Calls Tryz.prog 155 #[.int .i32 r] w fun e w' => e = .returned (.bool (Lib.validRune r)) ∧ w' = w := by
  have c1 := in_any r 0 55295
  have c2 := in_any r 57344 1114111
  by_cases g1 : inB r 0 55295 = true
  · have e : Lib.validRune r = true := by
      have := of_decide_eq_true g1
      unfold Lib.validRune
      apply decide_eq_true
      omega
    rw [g1] at c1
    rw [e]; clear e g1
    go_enter Tryz.func155, Tryz.ntmps155
    go_wp2_with (first | (go_at_call_of 61 (55295 : Int); refine (c1 _).mono ?_; rintro e wx ⟨rfl, rfl⟩) | fail)
    go_ret
    exact ⟨rfl, rfl⟩
  · have g1 : inB r 0 55295 = false := Bool.eq_false_iff.2 g1
    have e : inB r 57344 1114111 = Lib.validRune r := by
      have := of_decide_eq_false g1
      unfold Lib.validRune inB
      apply decide_eq_decide.2
      omega
    rw [e] at c2
    rw [g1] at c1
    generalize Lib.validRune r = b at c2 ⊢
    clear e g1
    cases b
    · go_enter Tryz.func155, Tryz.ntmps155
      go_wp2_with (first | (go_at_call_of 61 (55295 : Int); refine (c1 _).mono ?_; rintro e wx ⟨rfl, rfl⟩) | (go_at_call_of 61 (1114111 : Int); refine (c2 _).mono ?_; rintro e wx ⟨rfl, rfl⟩) | fail)
      go_ret
      exact ⟨rfl, rfl⟩
    · go_enter Tryz.func155, Tryz.ntmps155
      go_wp2_with (first | (go_at_call_of 61 (55295 : Int); refine (c1 _).mono ?_; rintro e wx ⟨rfl, rfl⟩) | (go_at_call_of 61 (1114111 : Int); refine (c2 _).mono ?_; rintro e wx ⟨rfl, rfl⟩) | fail)
      go_ret
      exact ⟨rfl, rfl⟩

/-- 'string(b)' of bytes that have just been laid. -/
theorem string_new (w : World) (l : List UInt8) (xs : List Int) (hx : xs = l.map fun b => (b.toNat : Int)) :
    (convert 130 9 (.slice (some ⟨w.heap.size, 0, none⟩) l.length l.length)).run Tryz.prog (w.alloc (.cells (xs.map (Value.int .u8)).toArray 5)) = .ok (.string ⟨l.toArray⟩) (w.alloc (.cells (xs.map (Value.int .u8)).toArray 5)) := by
  subst hx
  refine run_convert_bytes_back _ 130 9 5 ⟨w.heap.size, 0, none⟩ l.length l Tryz.underlying130 Tryz.underlying5 Tryz.underlying9 fun j hj => ?_
  have ea : (⟨w.heap.size, 0, none⟩ : Addr).add j = ⟨w.heap.size, j, none⟩ := by simp [Addr.add] <;> omega
  rw [ea]
  have := World.cell?_alloc_mark w ((l.map fun b => Value.int .u8 (b.toNat : Int)).toArray) 5 (0, 0) j
  rw [List.map_map]
  refine Eq.trans this ?_
  rw [List.getElem?_toArray, List.getElem?_map, List.getElem?_eq_getElem hj]
  rfl

set_option maxHeartbeats 1000000 in
theorem Bytes_any (r : Nat) (hr : isRune r) (w : World) : Calls Tryz.prog 156 #[.int .i32 r] w fun e w' => e = .returned (.string ⟨(enc r).toArray⟩) ∧ Below w.heap.size w w' := by
  unfold isRune at hr
  by_cases h1 : r ≤ 127
  · have hc := string_new w (enc r) [(r : Int)] (by rw [enc1 h1]; simp only [List.map_cons, List.map_nil, toU8 (show r < 256 by omega)])
    have hl : (enc r).length = 1 := by rw [enc1 h1]; rfl
    rw [hl] at hc
    simp only [List.map_cons, List.map_nil] at hc
    generalize enc r = l at hc ⊢
    have k1 : (r : Int) < 128 := by omega
    have k2 : (0 : Int) ≤ (r : Int) := by omega
    clear hl hr h1
    generalize (r : Int) = R at hc k1 k2 ⊢
    go_enter Tryz.func156, Tryz.ntmps156
    go_wp2
    go_ret
    exact ⟨rfl, (Below.refl _ _).alloc (Nat.le_refl _) _⟩
  by_cases h2 : r ≤ 2047
  · have hc := string_new w (enc r) [192 + (r : Int) / 64, 128 + (r : Int) % 64] (by
      rw [enc2 (by omega) h2]
      simp only [List.map_cons, List.map_nil, toU8 (show 192 + r / 64 < 256 by omega), toU8 (show 128 + r % 64 < 256 by omega)]
      rw [show ((192 + r / 64 : Nat) : Int) = 192 + (r : Int) / 64 by omega, show ((128 + r % 64 : Nat) : Int) = 128 + (r : Int) % 64 by omega])
    have hl : (enc r).length = 2 := by rw [enc2 (by omega) h2]; rfl
    rw [hl] at hc
    simp only [List.map_cons, List.map_nil] at hc
    generalize enc r = l at hc ⊢
    have k1 : ¬ (r : Int) < 128 := by omega
    have k2 : (r : Int) < 2048 := by omega
    have k3 : (0 : Int) ≤ (r : Int) := by omega
    clear hl hr h1 h2
    generalize (r : Int) = R at hc k1 k2 k3 ⊢
    go_enter Tryz.func156, Tryz.ntmps156
    go_wp2
    go_ret
    exact ⟨rfl, (Below.refl _ _).alloc (Nat.le_refl _) _⟩
  by_cases h3 : r ≤ 65535
  · have hc := string_new w (enc r) [224 + (r : Int) / 4096, 128 + (r : Int) / 64 % 64, 128 + (r : Int) % 64] (by
      rw [enc3 (by omega)]
      simp only [List.map_cons, List.map_nil, toU8 (show 224 + r / 4096 < 256 by omega), toU8 (show 128 + r / 64 % 64 < 256 by omega), toU8 (show 128 + r % 64 < 256 by omega)]
      rw [show ((224 + r / 4096 : Nat) : Int) = 224 + (r : Int) / 4096 by omega, show ((128 + r / 64 % 64 : Nat) : Int) = 128 + (r : Int) / 64 % 64 by omega, show ((128 + r % 64 : Nat) : Int) = 128 + (r : Int) % 64 by omega])
    have hl : (enc r).length = 3 := by rw [enc3 (by omega)]; rfl
    rw [hl] at hc
    simp only [List.map_cons, List.map_nil] at hc
    generalize enc r = l at hc ⊢
    have k1 : ¬ (r : Int) < 128 := by omega
    have k2 : ¬ (r : Int) < 2048 := by omega
    have k3 : (r : Int) < 65536 := by omega
    have k4 : (0 : Int) ≤ (r : Int) := by omega
    clear hl hr h1 h2 h3
    generalize (r : Int) = R at hc k1 k2 k3 k4 ⊢
    go_enter Tryz.func156, Tryz.ntmps156
    go_wp2
    go_ret
    exact ⟨rfl, (Below.refl _ _).alloc (Nat.le_refl _) _⟩
  · have hc := string_new w (enc r) [240 + (r : Int) / 262144, 128 + (r : Int) / 4096 % 64, 128 + (r : Int) / 64 % 64, 128 + (r : Int) % 64] (by
      rw [enc4 (by omega) (by omega)]
      simp only [List.map_cons, List.map_nil, toU8 (show 240 + r / 262144 < 256 by omega), toU8 (show 128 + r / 4096 % 64 < 256 by omega), toU8 (show 128 + r / 64 % 64 < 256 by omega), toU8 (show 128 + r % 64 < 256 by omega)]
      rw [show ((240 + r / 262144 : Nat) : Int) = 240 + (r : Int) / 262144 by omega, show ((128 + r / 4096 % 64 : Nat) : Int) = 128 + (r : Int) / 4096 % 64 by omega, show ((128 + r / 64 % 64 : Nat) : Int) = 128 + (r : Int) / 64 % 64 by omega, show ((128 + r % 64 : Nat) : Int) = 128 + (r : Int) % 64 by omega])
    have hl : (enc r).length = 4 := by rw [enc4 (by omega) (by omega)]; rfl
    rw [hl] at hc
    simp only [List.map_cons, List.map_nil] at hc
    generalize enc r = l at hc ⊢
    have k1 : ¬ (r : Int) < 128 := by omega
    have k2 : ¬ (r : Int) < 2048 := by omega
    have k3 : ¬ (r : Int) < 65536 := by omega
    have k4 : (r : Int) ≤ 1114111 := by omega
    have k5 : (0 : Int) ≤ (r : Int) := by omega
    clear hl hr h1 h2 h3
    generalize (r : Int) = R at hc k1 k2 k3 k4 k5 ⊢
    go_enter Tryz.func156, Tryz.ntmps156
    go_wp2
    go_ret
    exact ⟨rfl, (Below.refl _ _).alloc (Nat.le_refl _) _⟩

/-- A fault as a value. -/
def fault (e p : Int) : Value := .agg #[.int .i64 e, .int .i64 p]

set_option maxHeartbeats 400000 in
theorem Bare_any (n : Int) (w : World) : Calls Tryz.prog 65 #[.int .i64 n] w fun e w' => e = .returned (.agg #[.int .i64 n, .int .i64 (-1)]) ∧ Below w.heap.size w w' := by
  go_enter Tryz.func65, Tryz.ntmps65
  go_wp2
  refine bodyPost_ret (v := .agg #[.int .i64 n, .int .i64 (-1)]) (by simp [results, Tryz.results65, go_sem]) rfl ⟨rfl, ?_⟩
  exact (Below.refl _ _).alloc (Nat.le_refl _) _

end Go.Proofs.YtldhbjmillfjgabGreatDoor
