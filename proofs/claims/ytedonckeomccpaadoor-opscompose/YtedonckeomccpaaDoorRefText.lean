/-
  The document's own in, Rune, Bytes, Bare, Text: what they return.
-/
import Derived.Test.YtedonckeomccpaaDoorPartE
import Derived.Deep.RegionWith
namespace Go.Proofs.YtedonckeomccpaaDoor
open Go.RowKit
set_option linter.unusedVariables false

def inB (n lo hi : Int) : Bool := decide (lo ≤ n ∧ n ≤ hi)

set_option maxHeartbeats 400000 in
theorem in_any (n lo hi : Int) (w : World) : Calls Tryd.prog 78 #[.int .i64 n, .int .i64 lo, .int .i64 hi] w fun e w' => e = .returned (.bool (inB n lo hi)) ∧ w' = w := by
  by_cases h1 : lo ≤ n
  · by_cases h2 : n ≤ hi
    · have e : inB n lo hi = true := decide_eq_true ⟨h1, h2⟩
      rw [e]; clear e
      go_enter Tryd.func78, Tryd.ntmps78
      go_wp2
      go_ret
      exact ⟨rfl, rfl⟩
    · have e : inB n lo hi = false := decide_eq_false fun c => h2 c.2
      rw [e]; clear e
      go_enter Tryd.func78, Tryd.ntmps78
      go_wp2
      go_ret
      exact ⟨rfl, rfl⟩
  · have e : inB n lo hi = false := decide_eq_false fun c => h1 c.1
    rw [e]; clear e
    go_enter Tryd.func78, Tryd.ntmps78
    go_wp2
    go_ret
    exact ⟨rfl, rfl⟩

set_option maxHeartbeats 400000 in
theorem Rune_any (r : Int) (h0 : -2147483648 ≤ r) (h1 : r ≤ 2147483647) (w : World) : Calls Tryd.prog 74 #[.int .i32 r] w fun e w' => e = .returned (.bool (Lib.validRune r)) ∧ w' = w := by
  have c1 := in_any r 0 55295
  have c2 := in_any r 57344 1114111
  by_cases g1 : inB r 0 55295 = true
  · have e : Lib.validRune r = true := by
      have := of_decide_eq_true g1
      unfold Lib.validRune
      apply decide_eq_true
      omega
    rw [g1] at c1
    rw [e]; clear e g1
    go_enter Tryd.func74, Tryd.ntmps74
    go_wp2_with (first | (go_at_call_of 78 (55295 : Int); refine (c1 _).mono ?_; rintro e wx ⟨rfl, rfl⟩) | fail)
    go_ret
    exact ⟨rfl, rfl⟩
  · have g1 : inB r 0 55295 = false := Bool.eq_false_iff.2 g1
    have e : inB r 57344 1114111 = Lib.validRune r := by
      have := of_decide_eq_false g1
      unfold Lib.validRune inB
      apply decide_eq_decide.2
      omega
    rw [e] at c2
    rw [g1] at c1
    generalize Lib.validRune r = b at c2 ⊢
    clear e g1
    cases b
    · go_enter Tryd.func74, Tryd.ntmps74
      go_wp2_with (first | (go_at_call_of 78 (55295 : Int); refine (c1 _).mono ?_; rintro e wx ⟨rfl, rfl⟩) | (go_at_call_of 78 (1114111 : Int); refine (c2 _).mono ?_; rintro e wx ⟨rfl, rfl⟩) | fail)
      go_ret
      exact ⟨rfl, rfl⟩
    · go_enter Tryd.func74, Tryd.ntmps74
      go_wp2_with (first | (go_at_call_of 78 (55295 : Int); refine (c1 _).mono ?_; rintro e wx ⟨rfl, rfl⟩) | (go_at_call_of 78 (1114111 : Int); refine (c2 _).mono ?_; rintro e wx ⟨rfl, rfl⟩) | fail)
      go_ret
      exact ⟨rfl, rfl⟩

/-- 'string(b)' of bytes that have just been laid. -/
theorem string_new (w : World) (l : List UInt8) (xs : List Int) (hx : xs = l.map fun b => (b.toNat : Int)) :
    (convert 125 9 (.slice (some ⟨w.heap.size, 0, none⟩) l.length l.length)).run Tryd.prog (w.alloc (.cells (xs.map (Value.int .u8)).toArray 5)) = .ok (.string ⟨l.toArray⟩) (w.alloc (.cells (xs.map (Value.int .u8)).toArray 5)) := by
  subst hx
  refine run_convert_bytes_back _ 125 9 5 ⟨w.heap.size, 0, none⟩ l.length l Tryd.underlying125 Tryd.underlying5 Tryd.underlying9 fun j hj => ?_
  have ea : (⟨w.heap.size, 0, none⟩ : Addr).add j = ⟨w.heap.size, j, none⟩ := by simp [Addr.add] <;> omega
  rw [ea]
  have := World.cell?_alloc_mark w ((l.map fun b => Value.int .u8 (b.toNat : Int)).toArray) 5 (0, 0) j
  rw [List.map_map]
  refine Eq.trans this ?_
  rw [List.getElem?_toArray, List.getElem?_map, List.getElem?_eq_getElem hj]
  rfl

set_option maxHeartbeats 1000000 in
theorem Bytes_any (r : Nat) (hr : isRune r) (w : World) : Calls Tryd.prog 71 #[.int .i32 r] w fun e w' => e = .returned (.string ⟨(enc r).toArray⟩) ∧ Below w.heap.size w w' := by
  unfold isRune at hr
  by_cases h1 : r ≤ 127
  · have hc := string_new w (enc r) [(r : Int)] (by rw [enc1 h1]; simp only [List.map_cons, List.map_nil, toU8 (show r < 256 by omega)])
    have hl : (enc r).length = 1 := by rw [enc1 h1]; rfl
    rw [hl] at hc
    simp only [List.map_cons, List.map_nil] at hc
    generalize enc r = l at hc ⊢
    have k1 : (r : Int) < 128 := by omega
    have k2 : (0 : Int) ≤ (r : Int) := by omega
    clear hl hr h1
    generalize (r : Int) = R at hc k1 k2 ⊢
    go_enter Tryd.func71, Tryd.ntmps71
    go_wp2
    go_ret
    exact ⟨rfl, (Below.refl _ _).alloc (Nat.le_refl _) _⟩
  by_cases h2 : r ≤ 2047
  · have hc := string_new w (enc r) [192 + (r : Int) / 64, 128 + (r : Int) % 64] (by
      rw [enc2 (by omega) h2]
      simp only [List.map_cons, List.map_nil, toU8 (show 192 + r / 64 < 256 by omega), toU8 (show 128 + r % 64 < 256 by omega)]
      rw [show ((192 + r / 64 : Nat) : Int) = 192 + (r : Int) / 64 by omega, show ((128 + r % 64 : Nat) : Int) = 128 + (r : Int) % 64 by omega])
    have hl : (enc r).length = 2 := by rw [enc2 (by omega) h2]; rfl
    rw [hl] at hc
    simp only [List.map_cons, List.map_nil] at hc
    generalize enc r = l at hc ⊢
    have k1 : ¬ (r : Int) < 128 := by omega
    have k2 : (r : Int) < 2048 := by omega
    have k3 : (0 : Int) ≤ (r : Int) := by omega
    clear hl hr h1 h2
    generalize (r : Int) = R at hc k1 k2 k3 ⊢
    go_enter Tryd.func71, Tryd.ntmps71
    go_wp2
    go_ret
    exact ⟨rfl, (Below.refl _ _).alloc (Nat.le_refl _) _⟩
  by_cases h3 : r ≤ 65535
  · have hc := string_new w (enc r) [224 + (r : Int) / 4096, 128 + (r : Int) / 64 % 64, 128 + (r : Int) % 64] (by
      rw [enc3 (by omega)]
      simp only [List.map_cons, List.map_nil, toU8 (show 224 + r / 4096 < 256 by omega), toU8 (show 128 + r / 64 % 64 < 256 by omega), toU8 (show 128 + r % 64 < 256 by omega)]
      rw [show ((224 + r / 4096 : Nat) : Int) = 224 + (r : Int) / 4096 by omega, show ((128 + r / 64 % 64 : Nat) : Int) = 128 + (r : Int) / 64 % 64 by omega, show ((128 + r % 64 : Nat) : Int) = 128 + (r : Int) % 64 by omega])
    have hl : (enc r).length = 3 := by rw [enc3 (by omega)]; rfl
    rw [hl] at hc
    simp only [List.map_cons, List.map_nil] at hc
    generalize enc r = l at hc ⊢
    have k1 : ¬ (r : Int) < 128 := by omega
    have k2 : ¬ (r : Int) < 2048 := by omega
    have k3 : (r : Int) < 65536 := by omega
    have k4 : (0 : Int) ≤ (r : Int) := by omega
    clear hl hr h1 h2 h3
    generalize (r : Int) = R at hc k1 k2 k3 k4 ⊢
    go_enter Tryd.func71, Tryd.ntmps71
    go_wp2
    go_ret
    exact ⟨rfl, (Below.refl _ _).alloc (Nat.le_refl _) _⟩
  · have hc := string_new w (enc r) [240 + (r : Int) / 262144, 128 + (r : Int) / 4096 % 64, 128 + (r : Int) / 64 % 64, 128 + (r : Int) % 64] (by
      rw [enc4 (by omega) (by omega)]
      simp only [List.map_cons, List.map_nil, toU8 (show 240 + r / 262144 < 256 by omega), toU8 (show 128 + r / 4096 % 64 < 256 by omega), toU8 (show 128 + r / 64 % 64 < 256 by omega), toU8 (show 128 + r % 64 < 256 by omega)]
      rw [show ((240 + r / 262144 : Nat) : Int) = 240 + (r : Int) / 262144 by omega, show ((128 + r / 4096 % 64 : Nat) : Int) = 128 + (r : Int) / 4096 % 64 by omega, show ((128 + r / 64 % 64 : Nat) : Int) = 128 + (r : Int) / 64 % 64 by omega, show ((128 + r % 64 : Nat) : Int) = 128 + (r : Int) % 64 by omega])
    have hl : (enc r).length = 4 := by rw [enc4 (by omega) (by omega)]; rfl
    rw [hl] at hc
    simp only [List.map_cons, List.map_nil] at hc
    generalize enc r = l at hc ⊢
    have k1 : ¬ (r : Int) < 128 := by omega
    have k2 : ¬ (r : Int) < 2048 := by omega
    have k3 : ¬ (r : Int) < 65536 := by omega
    have k4 : (r : Int) ≤ 1114111 := by omega
    have k5 : (0 : Int) ≤ (r : Int) := by omega
    clear hl hr h1 h2 h3
    generalize (r : Int) = R at hc k1 k2 k3 k4 k5 ⊢
    go_enter Tryd.func71, Tryd.ntmps71
    go_wp2
    go_ret
    exact ⟨rfl, (Below.refl _ _).alloc (Nat.le_refl _) _⟩

/-- A fault as a value. -/
def fault (e p : Int) : Value := .agg #[.int .i64 e, .int .i64 p]

set_option maxHeartbeats 400000 in
theorem Bare_any (n : Int) (w : World) : Calls Tryd.prog 62 #[.int .i64 n] w fun e w' => e = .returned (.agg #[.int .i64 n, .int .i64 (-1)]) ∧ Below w.heap.size w w' := by
  go_enter Tryd.func62, Tryd.ntmps62
  go_wp2
  refine bodyPost_ret (v := .agg #[.int .i64 n, .int .i64 (-1)]) (by simp [results, Tryd.results62, go_sem]) rfl ⟨rfl, ?_⟩
  exact (Below.refl _ _).alloc (Nat.le_refl _) _

theorem str_append (a b : List UInt8) : (⟨a.toArray⟩ : ByteArray) ++ (⟨b.toArray⟩ : ByteArray) = ⟨(a ++ b).toArray⟩ := by
  apply ByteArray.ext
  simp

set_option maxHeartbeats 1000000 in
theorem refText_any (v : Value) (zs : List Int) (w : World) (hz : ∀ z ∈ zs, -2147483648 ≤ z ∧ z ≤ 2147483647) (hr : reads w .i32 v zs) (hl : zs.length < 100000000) :
    Calls Tryd.prog 24 #[v] w fun e w' => Below w.heap.size w w' ∧
      (((∀ z ∈ zs, Lib.validRune z = true) ∧ e = .returned (.tuple #[.string ⟨(encZ zs).toArray⟩, fault 0 (-1)])) ∨
       (∃ k : Nat, k < zs.length ∧ (∀ z ∈ zs.take k, Lib.validRune z = true) ∧ Lib.validRune (zs.getD k 0) = false ∧ e = .returned (.tuple #[.string ⟨#[]⟩, fault 3 k]))) := by
  obtain ⟨p, c, rfl, r1, r2, r3⟩ := hr
  obtain ⟨n, hn⟩ : ∃ n, n = zs.length := ⟨_, rfl⟩
  rw [← hn] at r1 r3 hl ⊢
  have HN : Hid (n = zs.length) := hn
  clear hn
  have R3 : Hid (zs ≠ [] → ∃ b o, p = some ⟨b, o, none⟩ ∧ b < w.heap.size ∧ ∀ i, i < n → w.cell? ⟨b, o + i, none⟩ = some (.int .i32 (zs.getD i 0))) := r3
  have HZ : Hid (∀ z ∈ zs, -2147483648 ≤ z ∧ z ≤ 2147483647) := hz
  clear r3 hz
  unfold fault
  go_enter Tryd.func24, Tryd.ntmps24
  go_wp2
  go_loopw [4, 9] (fun s i wr => ∃ (k : Nat) (t : ByteArray), k ≤ n ∧ i = .int .i64 k ∧ s = .string t ∧ t = ⟨(encZ (zs.take k)).toArray⟩ ∧ (∀ z ∈ zs.take k, Lib.validRune z = true) ∧
      wr.cell? ⟨w.heap.size, 0, none⟩ = some (.int .i64 0) ∧ wr.cell? ⟨w.heap.size, 1, none⟩ = some (.int .i64 0) ∧ wr.frozen? ⟨w.heap.size, 0, none⟩ = false ∧ wr.frozen? ⟨w.heap.size, 1, none⟩ = false ∧ Below w.heap.size w wr) (fun _ i _ => n - (intOf i).toNat)
  case atStart => exact ⟨0, ⟨#[]⟩, Nat.zero_le _, rfl, rfl, rfl, by simp, by simp [go_sem], by simp [go_sem], by simp [go_sem], by simp [go_sem], (Below.refl _ _).alloc (Nat.le_refl _) _⟩
  case round =>
    obtain ⟨k, t, hk, rfl, rfl, ht, hval, c0, c1, f0, f1, hwr⟩ := hrel
    by_cases hlt : k < n
    · have hne : zs ≠ [] := by intro e; rw [HN.out, e] at hlt; exact absurd hlt (Nat.not_lt_zero _)
      obtain ⟨b, o, rfl, hbw, hcell⟩ := R3.out hne
      have hc := (hwr.cell (p := ⟨b, o + k, none⟩) hbw).trans (hcell k hlt)
      obtain ⟨z, hz⟩ : ∃ z, z = zs.getD k 0 := ⟨_, rfl⟩
      rw [← hz] at hc
      have hzr := HZ.out z (by rw [hz, List.getD_eq_getElem?_getD, List.getElem?_eq_getElem (by rw [← HN.out]; exact hlt)]; exact List.getElem_mem _)
      have hzk : Hid (z = zs.getD k 0) := hz
      have hts : Hid (zs.take (k + 1) = zs.take k ++ [z]) := by rw [hz]; exact take_succ zs k (by rw [← HN.out]; exact hlt)
      clear hz hcell hne
      have cV := Rune_any z hzr.1 hzr.2 wr
      by_cases hv : Lib.validRune z = true
      · rw [hv] at cV
        obtain ⟨r, hzz, hrr⟩ := rune_of_valid hv
        have cB := Bytes_any r hrr wr
        rw [← hzz] at cB
        have hval' : Hid (∀ y ∈ zs.take (k + 1), Lib.validRune y = true) := by
          show ∀ y ∈ zs.take (k + 1), Lib.validRune y = true
          rw [hts.out]
          intro y hy
          rcases List.mem_append.1 hy with hy | hy
          · exact hval y hy
          · rw [List.mem_singleton.1 hy]; exact hv
        have hlen := encZ_len (zs.take (k + 1))
        rw [List.length_take] at hlen
        have ht' : Hid (t ++ ⟨(enc r).toArray⟩ = ⟨(encZ (zs.take (k + 1))).toArray⟩) := by
          show _ = _
          rw [ht, str_append, hts.out, encZ_snoc, hzz]
          rfl
        have hsz : t.size + (⟨(enc r).toArray⟩ : ByteArray).size ≤ 400000000 := by
          have e := congrArg ByteArray.size ht'.out
          rw [ByteArray.size_append] at e
          rw [e, Lib.size_eq]
          show (encZ (zs.take (k + 1))).length ≤ _
          omega
        generalize (⟨(enc r).toArray⟩ : ByteArray) = u at cB ht' hsz
        have HT : Hid (t = ⟨(encZ (zs.take k)).toArray⟩) := ht
        clear hval hv hzk hts hzr R3 HZ hzz hrr hlen ht
        go_wp2_with (first | (go_at_call 74; refine cV.mono ?_; rintro e wx ⟨rfl, rfl⟩) | (go_at_call 71; refine cB.mono ?_; rintro e w1 ⟨rfl, hb1⟩) | fail)
        have hbl : w.heap.size < wx.heap.size := World.block_lt_of_cell? wx _ c0
        have e0 := (hb1.cell (p := ⟨w.heap.size, 0, none⟩) hbl).trans c0
        have e1 := (hb1.cell (p := ⟨w.heap.size, 1, none⟩) hbl).trans c1
        have g0 := (hb1.frozen (p := ⟨w.heap.size, 0, none⟩) hbl).trans f0
        have g1 := (hb1.frozen (p := ⟨w.heap.size, 1, none⟩) hbl).trans f1
        have hw1 := hwr.trans (hb1.mono hwr.size)
        go_roundw
        case rel => exact ⟨k + 1, _, by omega, by go_num, rfl, ht'.out, hval'.out, e0, e1, g0, g1, hw1⟩
        case measure => simp [intOf]; omega
      · have hv : Lib.validRune z = false := Bool.eq_false_iff.2 hv
        rw [hv] at cV
        have hfin : Hid (∀ y ∈ zs.take k, Lib.validRune y = true) := hval
        have hbad : Hid (Lib.validRune (zs.getD k 0) = false) := by rw [← hzk.out]; exact hv
        clear hval hv hzk hts hzr R3 HZ ht
        go_wp2_with (first | (go_at_call 74; refine cV.mono ?_; rintro e wx ⟨rfl, rfl⟩) | fail)
        refine bodyPost_ret (v := .tuple #[.string ⟨#[]⟩, .agg #[.int .i64 3, .int .i64 k]]) (by simp [results, Tryd.results24, go_sem, c0, c1]) rfl ?_
        refine ⟨?_, .inr ⟨k, hlt, hfin.out, hbad.out, rfl⟩⟩
        exact (hwr.setCell (p := ⟨w.heap.size, 0, none⟩) (Nat.le_refl _) _).setCell (p := ⟨w.heap.size, 1, none⟩) (Nat.le_refl _) _
    · have e : zs.take k = zs := List.take_of_length_le (by rw [← HN.out]; omega)
      rw [e] at hval ht
      have hval' : Hid (∀ y ∈ zs, Lib.validRune y = true) := hval
      have ht' : Hid (t = ⟨(encZ zs).toArray⟩) := ht
      have hbl : w.heap.size < wr.heap.size := World.block_lt_of_cell? wr _ c0
      clear hval e R3 HZ ht
      go_wp2_with (first | (go_at_call 62; refine (Bare_any _ _).mono ?_; rintro e w1 ⟨rfl, hb1⟩; have e0 := (hb1.cell (p := ⟨w.heap.size, 0, none⟩) hbl).trans c0; have e1 := (hb1.cell (p := ⟨w.heap.size, 1, none⟩) hbl).trans c1; have g0 := (hb1.frozen (p := ⟨w.heap.size, 0, none⟩) hbl).trans f0; have g1 := (hb1.frozen (p := ⟨w.heap.size, 1, none⟩) hbl).trans f1) | fail)
      refine bodyPost_ret (v := .tuple #[.string t, .agg #[.int .i64 0, .int .i64 (-1)]]) (by simp [results, Tryd.results24, go_sem, e0, e1]) rfl ?_
      refine ⟨?_, .inl ⟨hval'.out, by rw [ht'.out]⟩⟩
      exact ((hwr.trans (hb1.mono hwr.size)).setCell (p := ⟨w.heap.size, 0, none⟩) (Nat.le_refl _) _).setCell (p := ⟨w.heap.size, 1, none⟩) (Nat.le_refl _) _

/-! ### ref.FromHalves -/
theorem scanH_valid (n : Nat) : ∀ (zs : List Int), zs.length ≤ n → ∀ p ∈ (scanH zs).1, Lib.validRune p.1 = true := by
  induction n with
  | zero =>
    intro zs hl p hp
    obtain rfl : zs = [] := by cases zs <;> simp_all
    rw [scanH_nil] at hp
    cases hp
  | succ n ih =>
    intro zs hl p hp
    by_cases h : zs = []
    · subst h; rw [scanH_nil] at hp; cases hp
    by_cases hv : Lib.validRune (leadZ zs).1 = true
    · rw [scanH_good h hv] at hp
      have w1 := leadZ_ge1 zs
      rcases List.mem_cons.1 hp with rfl | hp
      · exact hv
      · exact ih _ (by rw [List.length_drop]; omega) p hp
    · rw [scanH_bad h (Bool.eq_false_iff.2 hv)] at hp
      cases hp
theorem firstB_in (z : Int) : inB z 55296 56319 = firstB z := by unfold inB firstB; apply decide_eq_decide.2; omega
theorem secondB_in (z : Int) : inB z 56320 57343 = secondB z := by unfold inB secondB; apply decide_eq_decide.2; omega
theorem half_in (z : Int) (h0 : 0 ≤ z) (h1 : z < 65536) : inB z 55296 57343 = !Lib.validRune z := by
  by_cases h : inB z 55296 57343 = true
  · have := of_decide_eq_true h
    have h2 : Lib.validRune z = false := by unfold Lib.validRune; apply decide_eq_false; omega
    rw [h, h2]; rfl
  · have h := Bool.eq_false_iff.2 h
    have := of_decide_eq_false h
    have h2 : Lib.validRune z = true := by unfold Lib.validRune; apply decide_eq_true; omega
    rw [h, h2]; rfl

set_option maxRecDepth 100000 in
set_option maxHeartbeats 4000000 in
theorem refFromHalves_any (v : Value) (zs : List Int) (w : World) (hz : ∀ z ∈ zs, 0 ≤ z ∧ z < 65536) (hr : reads w .u16 v zs) (hl : zs.length < 100000000) :
    Calls Tryd.prog 26 #[v] w fun e w' => Below w.heap.size w w' ∧
      (((scanH zs).2 = true ∧ e = .returned (.tuple #[.string ⟨(encZ ((scanH zs).1.map (·.1))).toArray⟩, fault 0 (-1)])) ∨
       ((scanH zs).2 = false ∧ e = .returned (.tuple #[.string ⟨#[]⟩, fault 3 (placeH zs)]))) := by
  obtain ⟨p, c, rfl, r1, r2, r3⟩ := hr
  obtain ⟨n, hn⟩ : ∃ n, n = zs.length := ⟨_, rfl⟩
  rw [← hn] at r1 r3 hl ⊢
  have HN : Hid (n = zs.length) := hn
  clear hn
  have R3 : Hid (zs ≠ [] → ∃ b o, p = some ⟨b, o, none⟩ ∧ b < w.heap.size ∧ ∀ i, i < n → w.cell? ⟨b, o + i, none⟩ = some (.int .u16 (zs.getD i 0))) := r3
  have HZ : Hid (∀ z ∈ zs, 0 ≤ z ∧ z < 65536) := hz
  clear r3 hz
  obtain ⟨i0, hi, hz0, hz1, hz2⟩ := info_parts info21
  unfold fault
  go_enter Tryd.func26, Tryd.ntmps26
  go_wp2
  go_loopw [4, 5] (fun b i wr => ∃ (k : Nat) (done : List (Int × Nat)), k ≤ n ∧ i = .int .i64 k ∧ (scanH zs).1 = done ++ (scanH (zs.drop k)).1 ∧ (done.map (·.2)).sum = k ∧ (scanH zs).2 = (scanH (zs.drop k)).2 ∧ done.length ≤ k ∧
      wr.ownsRow (w.heap.size + 1) 21 1 b done.length (done.map fun p => Value.int .i32 p.1) ∧
      wr.cell? ⟨w.heap.size, 0, none⟩ = some (.int .i64 0) ∧ wr.cell? ⟨w.heap.size, 1, none⟩ = some (.int .i64 0) ∧ wr.frozen? ⟨w.heap.size, 0, none⟩ = false ∧ wr.frozen? ⟨w.heap.size, 1, none⟩ = false ∧ Below w.heap.size w wr) (fun _ i _ => n - (intOf i).toNat)
  case atStart => exact ⟨0, [], Nat.zero_le _, rfl, by rw [List.drop_zero]; rfl, rfl, by rw [List.drop_zero], Nat.le_refl _, World.ownsRow_nil _ _ _ _, by simp [go_sem], by simp [go_sem], by simp [go_sem], by simp [go_sem], (Below.refl _ _).alloc (Nat.le_refl _) _⟩
  case round =>
    obtain ⟨k, done, hk, rfl, hd1, hd2, hd3, hdl, hown, c0, c1, f0, f1, hwr⟩ := hrel
    by_cases hlt : k < n
    · have hne : zs ≠ [] := by intro e; rw [HN.out, e] at hlt; exact absurd hlt (Nat.not_lt_zero _)
      have hne2 : zs.drop k ≠ [] := by
        intro e
        have := congrArg List.length e
        rw [List.length_drop, List.length_nil, ← HN.out] at this
        omega
      obtain ⟨b, o, rfl, hbw, hcell⟩ := R3.out hne
      have hkz : k < zs.length := by rw [← HN.out]; exact hlt
      have hc := (hwr.cell (p := ⟨b, o + k, none⟩) hbw).trans (hcell k hlt)
      obtain ⟨z, hzz⟩ : ∃ z, z = zs.getD k 0 := ⟨_, rfl⟩
      have hze : zs.getD k 0 = zs[k] := by rw [List.getD_eq_getElem?_getD, List.getElem?_eq_getElem hkz]; rfl
      rw [← hzz] at hc
      have hzr := HZ.out z (by rw [hzz, hze]; exact List.getElem_mem _)
      obtain ⟨q0, q1⟩ := hzr
      have hdr : zs.drop k = z :: zs.drop (k + 1) := by rw [hzz, hze]; exact List.drop_eq_getElem_cons hkz
      have hbl : w.heap.size < wr.heap.size := World.block_lt_of_cell? wr _ c0
      have hdn : done.length < 100000000 := by omega
      have cI1 := in_any z 55296 56319
      have cI3 := in_any z 55296 57343
      rw [firstB_in] at cI1
      rw [half_in z q0 q1] at cI3
      by_cases hf1 : firstB z = true
      · rw [hf1] at cI1
        have hvz : Lib.validRune z = false := by
          have := of_decide_eq_true hf1
          unfold Lib.validRune
          apply decide_eq_false
          omega
        rw [hvz] at cI3
        by_cases hk2 : k + 1 < n
        · have hkz2 : k + 1 < zs.length := by rw [← HN.out]; exact hk2
          have hc2 := (hwr.cell (p := ⟨b, o + (k + 1), none⟩) hbw).trans (hcell (k + 1) hk2)
          obtain ⟨z2, hzz2⟩ : ∃ z, z = zs.getD (k + 1) 0 := ⟨_, rfl⟩
          have hze2 : zs.getD (k + 1) 0 = zs[k + 1] := by rw [List.getD_eq_getElem?_getD, List.getElem?_eq_getElem hkz2]; rfl
          rw [← hzz2] at hc2
          obtain ⟨q2, q3⟩ := HZ.out z2 (by rw [hzz2, hze2]; exact List.getElem_mem _)
          have hdr2 : zs.drop (k + 1) = z2 :: zs.drop (k + 1 + 1) := by rw [hzz2, hze2]; exact List.drop_eq_getElem_cons hkz2
          have cI2 := in_any z2 56320 57343
          rw [secondB_in] at cI2
          by_cases hs1 : secondB z2 = true
          · rw [hs1] at cI2
            have d1 := of_decide_eq_true hf1
            have d2 := of_decide_eq_true hs1
            have hp : leadZ (zs.drop k) = ((65536 + (z - 55296) * 1024 + z2 - 56320), 2) := by rw [hdr, hdr2]; simp only [leadZ, hf1, hs1, Bool.and_self, if_true]; refine Prod.ext ?_ rfl; show (65536 + ((z - 55296) * 1024 + (z2 - 56320)) : Int) = _; omega
            have hv : Lib.validRune (leadZ (zs.drop k)).1 = true := by rw [hp]; unfold Lib.validRune; apply decide_eq_true; show (0 ≤ (65536 + (z - 55296) * 1024 + z2 - 56320) ∧ (65536 + (z - 55296) * 1024 + z2 - 56320) < 55296) ∨ _; omega
            have hs2 := scanH_good hne2 hv
            rw [hp] at hs2
            have hnext : Hid ((scanH zs).1 = done ++ [((65536 + (z - 55296) * 1024 + z2 - 56320), 2)] ++ (scanH (zs.drop (k + 2))).1) := by
              show _ = _
              rw [hd1, hs2, List.append_assoc]
              simp only [List.drop_drop]
              rfl
            have hnext2 : Hid (((done ++ [((65536 + (z - 55296) * 1024 + z2 - 56320), 2)] : List (Int × Nat)).map (·.2)).sum = k + 2) := by
              show _ = _
              rw [List.map_append, List.sum_append, hd2]; rfl
            have hnext3 : Hid ((scanH zs).2 = (scanH (zs.drop (k + 2))).2) := by
              show _ = _
              rw [hd3, hs2]
              simp only [List.drop_drop]
            have hnext4 : Hid ((done ++ [((65536 + (z - 55296) * 1024 + z2 - 56320), 2)] : List (Int × Nat)).length ≤ k + 2) := by
              show _ ≤ _
              rw [List.length_append]
              simp
              omega
            have NX : Hid (∀ w1 v' o, w1.ownsRow (w.heap.size + 1) 21 1 v' (done.length + 1) ((done.map fun p => Value.int .i32 p.1) ++ [.int .i32 (65536 + (z - 55296) * 1024 + z2 - 56320)]) → (wr.alloc o).grownBy w1 (u4).ownBlock →
                w1.ownsRow (w.heap.size + 1) 21 1 v' (done ++ [((65536 + (z - 55296) * 1024 + z2 - 56320), 2)] : List (Int × Nat)).length ((done ++ [((65536 + (z - 55296) * 1024 + z2 - 56320), 2)] : List (Int × Nat)).map fun p => Value.int .i32 p.1) ∧
                w1.cell? ⟨w.heap.size, 0, none⟩ = some (.int .i64 0) ∧ w1.cell? ⟨w.heap.size, 1, none⟩ = some (.int .i64 0) ∧ w1.frozen? ⟨w.heap.size, 0, none⟩ = false ∧ w1.frozen? ⟨w.heap.size, 1, none⟩ = false ∧ Below w.heap.size w w1) := by
              intro w1 v' o h1 hg
              have hB : Below (w.heap.size + 1) wr w1 := ((Below.refl _ wr).alloc hbl o).grown hg (by rw [World.size_alloc]; omega) fun k hk => (hown.lt k hk).1
              refine ⟨?_, (hB.cell (p := ⟨w.heap.size, 0, none⟩) (Nat.lt_succ_self _)).trans c0, (hB.cell (p := ⟨w.heap.size, 1, none⟩) (Nat.lt_succ_self _)).trans c1, (hB.frozen (p := ⟨w.heap.size, 0, none⟩) (Nat.lt_succ_self _)).trans f0, (hB.frozen (p := ⟨w.heap.size, 1, none⟩) (Nat.lt_succ_self _)).trans f1, hwr.trans (hB.mono (Nat.le_succ _))⟩
              rw [List.length_append, List.map_append]
              exact h1
            obtain ⟨pb, cb, rfl⟩ := own_slice hown
            obtain ⟨d3, d4⟩ := d1
            obtain ⟨d5, d6⟩ := d2
            clear hd1 hd2 hd3 hdl hs2 hv hvz hp R3 HZ hcell hne hne2 hkz hkz2 hdr hdr2 hzz hzz2 hze hze2 hf1 hs1 cI3
            go_wp2_with (first | (go_at_call_of 78 (56319 : Int); refine (cI1 _).mono ?_; rintro e wx ⟨rfl, hwx⟩; obtain rfl := hwx.symm) | (go_at_call_of 78 (56320 : Int); refine (cI2 _).mono ?_; rintro e wx ⟨rfl, hwx⟩; obtain rfl := hwx.symm) | (at_builtin; refine wpList_append_own _ rfl (.tmp 36) (.tmp 50) 22 rfl (w.heap.size + 1) 21 i0 (.int .i32 0) 1 4 Tryd.underlying22 hi hz0 hz1 hz2 rfl (by decide) _ _ _ rfl (hown.alloc _) ⟨wr.heap.size, 0, none⟩ 1 1 [.int .i32 (65536 + (z - 55296) * 1024 + z2 - 56320)] rfl rfl (cell_one_new _ _ _) (ints_oneCell .i32 [(65536 + (z - 55296) * 1024 + z2 - 56320)]) (by unfold maxLen; omega) (by omega) (by first | omega | (simp; omega)) ?_; intro v' w1 hown1 hg _) | fail)
            have hnx := NX.out w1 v' _ hown1 hg
            obtain ⟨n0, n1, n2, n3, n4, n5⟩ := hnx
            clear hown1 hg hown
            go_wp2
            go_roundw
            case rel => exact ⟨k + 2, _, by omega, by go_num, hnext.out, hnext2.out, hnext3.out, hnext4.out, n0, n1, n2, n3, n4, n5⟩
            case measure => simp [intOf]; omega
          · have hs1 : secondB z2 = false := Bool.eq_false_iff.2 hs1
            rw [hs1] at cI2
            have hv := hvz
            have hp : leadZ (zs.drop k) = (z, 1) := by rw [hdr, hdr2]; simp only [leadZ, hf1, hs1]; rfl
            have hs2 := scanH_bad hne2 (by rw [hp]; exact hv)
            have hpl : Hid (placeH zs = k) := by
              show _ = _
              unfold placeH
              rw [hd1, hs2, List.append_nil, hd2]
            have hf : Hid ((scanH zs).2 = false) := by show _ = _; rw [hd3, hs2]
            clear hd1 hd2 hd3 hdl hs2 hv hvz hp R3 HZ hcell hne hne2 hkz hkz2 hdr hdr2 hzz hzz2 hze hze2 hf1 hs1 hown
            go_wp2_with (first | (go_at_call_of 78 (56319 : Int); refine (cI1 _).mono ?_; rintro e wx ⟨rfl, hwx⟩; obtain rfl := hwx.symm) | (go_at_call_of 78 (56320 : Int); refine (cI2 _).mono ?_; rintro e wx ⟨rfl, hwx⟩; obtain rfl := hwx.symm) | (go_at_call 78; refine (cI3 _).mono ?_; rintro e wx ⟨rfl, hwx⟩; obtain rfl := hwx.symm) | fail)
            refine bodyPost_ret (v := .tuple #[.string ⟨#[]⟩, .agg #[.int .i64 3, .int .i64 k]]) (by simp [results, Tryd.results26, go_sem, c0, c1]) rfl ?_
            refine ⟨(hwr.setCell (p := ⟨w.heap.size, 0, none⟩) (Nat.le_refl _) _).setCell (p := ⟨w.heap.size, 1, none⟩) (Nat.le_refl _) _, .inr ⟨hf.out, by rw [hpl.out]⟩⟩
        · have hk2' : ¬ ((k : Int) + 1 < (n : Int)) := by omega
          have hdr2 : zs.drop (k + 1) = [] := List.drop_eq_nil_of_le (by rw [← HN.out]; omega)
          have hv := hvz
          have hp : leadZ (zs.drop k) = (z, 1) := by rw [hdr, hdr2]; rfl
          have hs2 := scanH_bad hne2 (by rw [hp]; exact hv)
          have hpl : Hid (placeH zs = k) := by
            show _ = _
            unfold placeH
            rw [hd1, hs2, List.append_nil, hd2]
          have hf : Hid ((scanH zs).2 = false) := by show _ = _; rw [hd3, hs2]
          clear hd1 hd2 hd3 hdl hs2 hv hvz hp R3 HZ hcell hne hne2 hkz hdr hdr2 hzz hze hf1 hown
          go_wp2_with (first | (go_at_call_of 78 (56319 : Int); refine (cI1 _).mono ?_; rintro e wx ⟨rfl, hwx⟩; obtain rfl := hwx.symm) | (go_at_call 78; refine (cI3 _).mono ?_; rintro e wx ⟨rfl, hwx⟩; obtain rfl := hwx.symm) | fail)
          refine bodyPost_ret (v := .tuple #[.string ⟨#[]⟩, .agg #[.int .i64 3, .int .i64 k]]) (by simp [results, Tryd.results26, go_sem, c0, c1]) rfl ?_
          refine ⟨(hwr.setCell (p := ⟨w.heap.size, 0, none⟩) (Nat.le_refl _) _).setCell (p := ⟨w.heap.size, 1, none⟩) (Nat.le_refl _) _, .inr ⟨hf.out, by rw [hpl.out]⟩⟩
      · have hf1 : firstB z = false := Bool.eq_false_iff.2 hf1
        rw [hf1] at cI1
        have hlead : leadZ (zs.drop k) = (z, 1) := by
          rw [hdr]
          cases zs.drop (k + 1) with
          | nil => rfl
          | cons y t => simp [leadZ, hf1]
        by_cases hv : Lib.validRune z = true
        · rw [hv] at cI3
          have hvz := hv
          have hp : leadZ (zs.drop k) = (z, 1) := hlead
          have hv2 : Lib.validRune (leadZ (zs.drop k)).1 = true := by rw [hp]; exact hv
          have hs2 := scanH_good hne2 hv2
          rw [hp] at hs2
          have hnext : Hid ((scanH zs).1 = done ++ [(z, 1)] ++ (scanH (zs.drop (k + 1))).1) := by
            show _ = _
            rw [hd1, hs2, List.append_assoc]
            simp only [List.drop_drop]
            rfl
          have hnext2 : Hid (((done ++ [(z, 1)] : List (Int × Nat)).map (·.2)).sum = k + 1) := by
            show _ = _
            rw [List.map_append, List.sum_append, hd2]; rfl
          have hnext3 : Hid ((scanH zs).2 = (scanH (zs.drop (k + 1))).2) := by
            show _ = _
            rw [hd3, hs2]
            simp only [List.drop_drop]
          have hnext4 : Hid ((done ++ [(z, 1)] : List (Int × Nat)).length ≤ k + 1) := by
            show _ ≤ _
            rw [List.length_append]
            simp
            omega
          have NX : Hid (∀ w1 v' o, w1.ownsRow (w.heap.size + 1) 21 1 v' (done.length + 1) ((done.map fun p => Value.int .i32 p.1) ++ [.int .i32 z]) → (wr.alloc o).grownBy w1 (u4).ownBlock →
              w1.ownsRow (w.heap.size + 1) 21 1 v' (done ++ [(z, 1)] : List (Int × Nat)).length ((done ++ [(z, 1)] : List (Int × Nat)).map fun p => Value.int .i32 p.1) ∧
              w1.cell? ⟨w.heap.size, 0, none⟩ = some (.int .i64 0) ∧ w1.cell? ⟨w.heap.size, 1, none⟩ = some (.int .i64 0) ∧ w1.frozen? ⟨w.heap.size, 0, none⟩ = false ∧ w1.frozen? ⟨w.heap.size, 1, none⟩ = false ∧ Below w.heap.size w w1) := by
            intro w1 v' o h1 hg
            have hB : Below (w.heap.size + 1) wr w1 := ((Below.refl _ wr).alloc hbl o).grown hg (by rw [World.size_alloc]; omega) fun k hk => (hown.lt k hk).1
            refine ⟨?_, (hB.cell (p := ⟨w.heap.size, 0, none⟩) (Nat.lt_succ_self _)).trans c0, (hB.cell (p := ⟨w.heap.size, 1, none⟩) (Nat.lt_succ_self _)).trans c1, (hB.frozen (p := ⟨w.heap.size, 0, none⟩) (Nat.lt_succ_self _)).trans f0, (hB.frozen (p := ⟨w.heap.size, 1, none⟩) (Nat.lt_succ_self _)).trans f1, hwr.trans (hB.mono (Nat.le_succ _))⟩
            rw [List.length_append, List.map_append]
            exact h1
          obtain ⟨pb, cb, rfl⟩ := own_slice hown
          clear hd1 hd2 hd3 hdl hs2 hv hv2 hvz hp R3 HZ hcell hne hne2 hkz hdr hzz hze hf1 hlead
          go_wp2_with (first | (go_at_call_of 78 (56319 : Int); refine (cI1 _).mono ?_; rintro e wx ⟨rfl, hwx⟩; obtain rfl := hwx.symm) | (go_at_call 78; refine (cI3 _).mono ?_; rintro e wx ⟨rfl, hwx⟩; obtain rfl := hwx.symm) | (at_builtin; refine wpList_append_own _ rfl (.tmp 58) (.tmp 61) 22 rfl (w.heap.size + 1) 21 i0 (.int .i32 0) 1 4 Tryd.underlying22 hi hz0 hz1 hz2 rfl (by decide) _ _ _ rfl (hown.alloc _) ⟨wr.heap.size, 0, none⟩ 1 1 [.int .i32 z] rfl rfl (cell_one_new _ _ _) (ints_oneCell .i32 [z]) (by unfold maxLen; omega) (by omega) (by first | omega | (simp; omega)) ?_; intro v' w1 hown1 hg _) | fail)
          have hnx := NX.out w1 v' _ hown1 hg
          obtain ⟨n0, n1, n2, n3, n4, n5⟩ := hnx
          clear hown1 hg hown
          go_wp2
          go_roundw
          case rel => exact ⟨k + 1, _, by omega, by go_num, hnext.out, hnext2.out, hnext3.out, hnext4.out, n0, n1, n2, n3, n4, n5⟩
          case measure => simp [intOf]; omega
        · have hv : Lib.validRune z = false := Bool.eq_false_iff.2 hv
          rw [hv] at cI3
          have hp : leadZ (zs.drop k) = (z, 1) := hlead
          have hs2 := scanH_bad hne2 (by rw [hp]; exact hv)
          have hpl : Hid (placeH zs = k) := by
            show _ = _
            unfold placeH
            rw [hd1, hs2, List.append_nil, hd2]
          have hf : Hid ((scanH zs).2 = false) := by show _ = _; rw [hd3, hs2]
          clear hd1 hd2 hd3 hdl hs2 hv hp R3 HZ hcell hne hne2 hkz hdr hzz hze hf1 hlead hown
          go_wp2_with (first | (go_at_call_of 78 (56319 : Int); refine (cI1 _).mono ?_; rintro e wx ⟨rfl, hwx⟩; obtain rfl := hwx.symm) | (go_at_call 78; refine (cI3 _).mono ?_; rintro e wx ⟨rfl, hwx⟩; obtain rfl := hwx.symm) | fail)
          refine bodyPost_ret (v := .tuple #[.string ⟨#[]⟩, .agg #[.int .i64 3, .int .i64 k]]) (by simp [results, Tryd.results26, go_sem, c0, c1]) rfl ?_
          refine ⟨(hwr.setCell (p := ⟨w.heap.size, 0, none⟩) (Nat.le_refl _) _).setCell (p := ⟨w.heap.size, 1, none⟩) (Nat.le_refl _) _, .inr ⟨hf.out, by rw [hpl.out]⟩⟩
    · have e : zs.drop k = [] := List.drop_eq_nil_of_le (by rw [← HN.out]; omega)
      rw [e, scanH_nil] at hd1 hd3
      rw [List.append_nil] at hd1
      have hbl : w.heap.size < wr.heap.size := World.block_lt_of_cell? wr _ c0
      have hown' : wr.ownsRow (w.heap.size + 1) 21 1 u4 (done.map (·.1)).length (done.map fun p => Value.int .i32 p.1) := by rw [List.length_map]; exact hown
      have hrd : reads wr .i32 u4 (done.map (·.1)) := reads_own (by rw [List.map_map]; rfl) hown'
      have hval : ∀ y ∈ done.map (·.1), Lib.validRune y = true := by
        rw [← hd1]
        intro y hy
        obtain ⟨q, hq, rfl⟩ := List.mem_map.1 hy
        exact scanH_valid zs.length zs (Nat.le_refl _) q hq
      have cT := refText_any u4 (done.map (·.1)) wr (fun y hy => by
        have := of_decide_eq_true (hval y hy)
        omega) hrd (by rw [List.length_map]; omega)
      have cT2 : Calls Tryd.prog 24 #[u4] wr fun e w' => e = .returned (.tuple #[.string ⟨(encZ (done.map (·.1))).toArray⟩, .agg #[.int .i64 0, .int .i64 (-1)]]) ∧ Below wr.heap.size wr w' := by
        refine cT.mono ?_
        rintro e w1 ⟨hb1, ⟨_, rfl⟩ | ⟨j, hj, _, hbad, rfl⟩⟩
        · exact ⟨rfl, hb1⟩
        · have := hval _ (show (done.map (·.1)).getD j 0 ∈ done.map (·.1) by rw [List.getD_eq_getElem?_getD, List.getElem?_eq_getElem hj]; exact List.getElem_mem _)
          rw [this] at hbad
          cases hbad
      have hf : Hid ((scanH zs).2 = true) := hd3
      have hd : Hid ((scanH zs).1 = done) := hd1
      obtain ⟨pb, cb, rfl⟩ := own_slice hown
      clear hown hown' hrd hval e R3 HZ hd1 hd3 cT
      go_wp2_with (first | (go_at_call 24; refine cT2.mono ?_; rintro e w1 ⟨rfl, hb1⟩; have e0 := (hb1.cell (p := ⟨w.heap.size, 0, none⟩) hbl).trans c0; have e1 := (hb1.cell (p := ⟨w.heap.size, 1, none⟩) hbl).trans c1; have g0 := (hb1.frozen (p := ⟨w.heap.size, 0, none⟩) hbl).trans f0; have g1 := (hb1.frozen (p := ⟨w.heap.size, 1, none⟩) hbl).trans f1) | fail)
      refine bodyPost_ret (v := .tuple #[.string ⟨(encZ (done.map (·.1))).toArray⟩, .agg #[.int .i64 0, .int .i64 (-1)]]) (by simp [results, Tryd.results26, go_sem, e0, e1]) rfl ?_
      refine ⟨((hwr.trans (hb1.mono hwr.size)).setCell (p := ⟨w.heap.size, 0, none⟩) (Nat.le_refl _) _).setCell (p := ⟨w.heap.size, 1, none⟩) (Nat.le_refl _) _, .inl ⟨hf.out, by rw [hd.out]⟩⟩
end Go.Proofs.YtedonckeomccpaaDoor
