/-
  The document's own in, Rune, Bytes, Bare, Text: what they return.
  Plain mathematics: which of up to four bytes' numbers is a rune with just these bytes; no Go in sight.
  The document's own first: what it returns of any text.
  The document's own Runes: what it returns of any text.
  rosettalaw.sameRunes, sameHalves: two lists that read alike are told alike.
  The document's own Halves: what it returns of any runes.
  The library's contracts that these texts use, laid at this program by the shelf's own command, its plain mode.
  The document's own Count: what it returns of any text.
  Plain mathematics: what a text counts, told by its runes, and by its bytes.
  The rope's tree, as memory holds it; what its nodes' counts, height and size tell.
  rope.link: a chunk above two trees.
  Plain mathematics: the rope's trees: chunks in order, heights, balance.
  rope.turn: a chunk above two trees that differ by two in height at most.
  rope.turn, where the left one is the higher by two: twice.
  rope.turn, where the left one is the higher by two: once.
-/
import Derived.Test.YtgmgkbbnciglhaaDoorPartA
import Derived.Deep.RegionWith
import Derived.Deep.QuietTactic
import Derived.BigQuiet
import Derived.Shelf.Strings.Builder1
import Derived.Shelf.Small.Utf8
import Derived.Shelf.Strings.BuilderF
import Derived.Shelf.Strings.BuilderK
import Derived.Shelf.Utf8.AppendRune
import Derived.Shelf.Utf8.AppendRunePlain
import Derived.Shelf.Utf8.RuneCount
import Derived.Shelf.LaysM
import Derived.Shelf.Strconv.Clone
import Derived.Shelf.Strings.Search1
import Derived.Shelf.Strings.Search2
import Derived.Shelf.Strings.Search3
import Derived.Shelf.Strings.Count
import Derived.Shelf.Strings.Shaped
import Derived.Shelf.Strings.Split
import Derived.Shelf.Unicode.Decode
import Derived.Shelf.Strings.RuneCount
import Derived.Shelf.Unicode.DecodeSlow
import Derived.Shelf.Unicode.DecodeAny
import Derived.Shelf.Strings.BuilderCap
import Derived.Test.YtgmgkbbnciglhaaDoorProg
namespace Go.Proofs.YtgmgkbbnciglhaaDoor
open Go.RowKit
set_option linter.unusedVariables false

def inB (n lo hi : Int) : Bool := decide (lo ≤ n ∧ n ≤ hi)

set_option maxHeartbeats 400000 in
theorem in_any (n lo hi : Int) (w : World) : Calls Tryd.prog 78 #[.int .i64 n, .int .i64 lo, .int .i64 hi] w fun e w' => e = .returned (.bool (inB n lo hi)) ∧ w' = w := by
  by_cases h1 : lo ≤ n
  · by_cases h2 : n ≤ hi
    · have e : inB n lo hi = true := decide_eq_true ⟨h1, h2⟩
      rw [e]; clear e
      go_enter Tryd.func78, Tryd.ntmps78
      go_wp2
      go_ret
      exact ⟨rfl, rfl⟩
    · have e : inB n lo hi = false := decide_eq_false fun c => h2 c.2
      rw [e]; clear e
      go_enter Tryd.func78, Tryd.ntmps78
      go_wp2
      go_ret
      exact ⟨rfl, rfl⟩
  · have e : inB n lo hi = false := decide_eq_false fun c => h1 c.1
    rw [e]; clear e
    go_enter Tryd.func78, Tryd.ntmps78
    go_wp2
    go_ret
    exact ⟨rfl, rfl⟩

set_option maxHeartbeats 400000 in
theorem Rune_any (r : Int) (h0 : -2147483648 ≤ r) (h1 : r ≤ 2147483647) (w : World) : Calls Tryd.prog 74 #[.int .i32 r] w fun e w' => e = .returned (.bool (Lib.validRune r)) ∧ w' = w := by
  have c1 := in_any r 0 55295
  have c2 := in_any r 57344 1114111
  by_cases g1 : inB r 0 55295 = true
  · have e : Lib.validRune r = true := by
      have := of_decide_eq_true g1
      unfold Lib.validRune
      apply decide_eq_true
      omega
    rw [g1] at c1
    rw [e]; clear e g1
    go_enter Tryd.func74, Tryd.ntmps74
    go_wp2_with (first | (go_at_call_of 78 (55295 : Int); refine (c1 _).mono ?_; rintro e wx ⟨rfl, rfl⟩) | fail)
    go_ret
    exact ⟨rfl, rfl⟩
  · have g1 : inB r 0 55295 = false := Bool.eq_false_iff.2 g1
    have e : inB r 57344 1114111 = Lib.validRune r := by
      have := of_decide_eq_false g1
      unfold Lib.validRune inB
      apply decide_eq_decide.2
      omega
    rw [e] at c2
    rw [g1] at c1
    generalize Lib.validRune r = b at c2 ⊢
    clear e g1
    cases b
    · go_enter Tryd.func74, Tryd.ntmps74
      go_wp2_with (first | (go_at_call_of 78 (55295 : Int); refine (c1 _).mono ?_; rintro e wx ⟨rfl, rfl⟩) | (go_at_call_of 78 (1114111 : Int); refine (c2 _).mono ?_; rintro e wx ⟨rfl, rfl⟩) | fail)
      go_ret
      exact ⟨rfl, rfl⟩
    · go_enter Tryd.func74, Tryd.ntmps74
      go_wp2_with (first | (go_at_call_of 78 (55295 : Int); refine (c1 _).mono ?_; rintro e wx ⟨rfl, rfl⟩) | (go_at_call_of 78 (1114111 : Int); refine (c2 _).mono ?_; rintro e wx ⟨rfl, rfl⟩) | fail)
      go_ret
      exact ⟨rfl, rfl⟩

/-- 'string(b)' of bytes that have just been laid. -/
theorem string_new (w : World) (l : List UInt8) (xs : List Int) (hx : xs = l.map fun b => (b.toNat : Int)) :
    (convert 125 9 (.slice (some ⟨w.heap.size, 0, none⟩) l.length l.length)).run Tryd.prog (w.alloc (.cells (xs.map (Value.int .u8)).toArray 5)) = .ok (.string ⟨l.toArray⟩) (w.alloc (.cells (xs.map (Value.int .u8)).toArray 5)) := by
  subst hx
  refine run_convert_bytes_back _ 125 9 5 ⟨w.heap.size, 0, none⟩ l.length l Tryd.underlying125 Tryd.underlying5 Tryd.underlying9 fun j hj => ?_
  have ea : (⟨w.heap.size, 0, none⟩ : Addr).add j = ⟨w.heap.size, j, none⟩ := by simp [Addr.add] <;> omega
  rw [ea]
  have := World.cell?_alloc_mark w ((l.map fun b => Value.int .u8 (b.toNat : Int)).toArray) 5 (0, 0) j
  rw [List.map_map]
  refine Eq.trans this ?_
  rw [List.getElem?_toArray, List.getElem?_map, List.getElem?_eq_getElem hj]
  rfl

set_option maxHeartbeats 1000000 in
theorem Bytes_any (r : Nat) (hr : isRune r) (w : World) : Calls Tryd.prog 71 #[.int .i32 r] w fun e w' => e = .returned (.string ⟨(enc r).toArray⟩) ∧ Below w.heap.size w w' := by
  unfold isRune at hr
  by_cases h1 : r ≤ 127
  · have hc := string_new w (enc r) [(r : Int)] (by rw [enc1 h1]; simp only [List.map_cons, List.map_nil, toU8 (show r < 256 by omega)])
    have hl : (enc r).length = 1 := by rw [enc1 h1]; rfl
    rw [hl] at hc
    simp only [List.map_cons, List.map_nil] at hc
    generalize enc r = l at hc ⊢
    have k1 : (r : Int) < 128 := by omega
    have k2 : (0 : Int) ≤ (r : Int) := by omega
    clear hl hr h1
    generalize (r : Int) = R at hc k1 k2 ⊢
    go_enter Tryd.func71, Tryd.ntmps71
    go_wp2
    go_ret
    exact ⟨rfl, (Below.refl _ _).alloc (Nat.le_refl _) _⟩
  by_cases h2 : r ≤ 2047
  · have hc := string_new w (enc r) [192 + (r : Int) / 64, 128 + (r : Int) % 64] (by
      rw [enc2 (by omega) h2]
      simp only [List.map_cons, List.map_nil, toU8 (show 192 + r / 64 < 256 by omega), toU8 (show 128 + r % 64 < 256 by omega)]
      rw [show ((192 + r / 64 : Nat) : Int) = 192 + (r : Int) / 64 by omega, show ((128 + r % 64 : Nat) : Int) = 128 + (r : Int) % 64 by omega])
    have hl : (enc r).length = 2 := by rw [enc2 (by omega) h2]; rfl
    rw [hl] at hc
    simp only [List.map_cons, List.map_nil] at hc
    generalize enc r = l at hc ⊢
    have k1 : ¬ (r : Int) < 128 := by omega
    have k2 : (r : Int) < 2048 := by omega
    have k3 : (0 : Int) ≤ (r : Int) := by omega
    clear hl hr h1 h2
    generalize (r : Int) = R at hc k1 k2 k3 ⊢
    go_enter Tryd.func71, Tryd.ntmps71
    go_wp2
    go_ret
    exact ⟨rfl, (Below.refl _ _).alloc (Nat.le_refl _) _⟩
  by_cases h3 : r ≤ 65535
  · have hc := string_new w (enc r) [224 + (r : Int) / 4096, 128 + (r : Int) / 64 % 64, 128 + (r : Int) % 64] (by
      rw [enc3 (by omega)]
      simp only [List.map_cons, List.map_nil, toU8 (show 224 + r / 4096 < 256 by omega), toU8 (show 128 + r / 64 % 64 < 256 by omega), toU8 (show 128 + r % 64 < 256 by omega)]
      rw [show ((224 + r / 4096 : Nat) : Int) = 224 + (r : Int) / 4096 by omega, show ((128 + r / 64 % 64 : Nat) : Int) = 128 + (r : Int) / 64 % 64 by omega, show ((128 + r % 64 : Nat) : Int) = 128 + (r : Int) % 64 by omega])
    have hl : (enc r).length = 3 := by rw [enc3 (by omega)]; rfl
    rw [hl] at hc
    simp only [List.map_cons, List.map_nil] at hc
    generalize enc r = l at hc ⊢
    have k1 : ¬ (r : Int) < 128 := by omega
    have k2 : ¬ (r : Int) < 2048 := by omega
    have k3 : (r : Int) < 65536 := by omega
    have k4 : (0 : Int) ≤ (r : Int) := by omega
    clear hl hr h1 h2 h3
    generalize (r : Int) = R at hc k1 k2 k3 k4 ⊢
    go_enter Tryd.func71, Tryd.ntmps71
    go_wp2
    go_ret
    exact ⟨rfl, (Below.refl _ _).alloc (Nat.le_refl _) _⟩
  · have hc := string_new w (enc r) [240 + (r : Int) / 262144, 128 + (r : Int) / 4096 % 64, 128 + (r : Int) / 64 % 64, 128 + (r : Int) % 64] (by
      rw [enc4 (by omega) (by omega)]
      simp only [List.map_cons, List.map_nil, toU8 (show 240 + r / 262144 < 256 by omega), toU8 (show 128 + r / 4096 % 64 < 256 by omega), toU8 (show 128 + r / 64 % 64 < 256 by omega), toU8 (show 128 + r % 64 < 256 by omega)]
      rw [show ((240 + r / 262144 : Nat) : Int) = 240 + (r : Int) / 262144 by omega, show ((128 + r / 4096 % 64 : Nat) : Int) = 128 + (r : Int) / 4096 % 64 by omega, show ((128 + r / 64 % 64 : Nat) : Int) = 128 + (r : Int) / 64 % 64 by omega, show ((128 + r % 64 : Nat) : Int) = 128 + (r : Int) % 64 by omega])
    have hl : (enc r).length = 4 := by rw [enc4 (by omega) (by omega)]; rfl
    rw [hl] at hc
    simp only [List.map_cons, List.map_nil] at hc
    generalize enc r = l at hc ⊢
    have k1 : ¬ (r : Int) < 128 := by omega
    have k2 : ¬ (r : Int) < 2048 := by omega
    have k3 : ¬ (r : Int) < 65536 := by omega
    have k4 : (r : Int) ≤ 1114111 := by omega
    have k5 : (0 : Int) ≤ (r : Int) := by omega
    clear hl hr h1 h2 h3
    generalize (r : Int) = R at hc k1 k2 k3 k4 k5 ⊢
    go_enter Tryd.func71, Tryd.ntmps71
    go_wp2
    go_ret
    exact ⟨rfl, (Below.refl _ _).alloc (Nat.le_refl _) _⟩

/-- A fault as a value. -/
def fault (e p : Int) : Value := .agg #[.int .i64 e, .int .i64 p]

set_option maxHeartbeats 400000 in
theorem Bare_any (n : Int) (w : World) : Calls Tryd.prog 62 #[.int .i64 n] w fun e w' => e = .returned (.agg #[.int .i64 n, .int .i64 (-1)]) ∧ Below w.heap.size w w' := by
  go_enter Tryd.func62, Tryd.ntmps62
  go_wp2
  refine bodyPost_ret (v := .agg #[.int .i64 n, .int .i64 (-1)]) (by simp [results, Tryd.results62, go_sem]) rfl ⟨rfl, ?_⟩
  exact (Below.refl _ _).alloc (Nat.le_refl _) _

theorem str_append (a b : List UInt8) : (⟨a.toArray⟩ : ByteArray) ++ (⟨b.toArray⟩ : ByteArray) = ⟨(a ++ b).toArray⟩ := by
  apply ByteArray.ext
  simp

set_option maxHeartbeats 1000000 in
theorem refText_any (v : Value) (zs : List Int) (w : World) (hz : ∀ z ∈ zs, -2147483648 ≤ z ∧ z ≤ 2147483647) (hr : reads w .i32 v zs) (hl : zs.length < 100000000) :
    Calls Tryd.prog 24 #[v] w fun e w' => Below w.heap.size w w' ∧
      (((∀ z ∈ zs, Lib.validRune z = true) ∧ e = .returned (.tuple #[.string ⟨(encZ zs).toArray⟩, fault 0 (-1)])) ∨
       (∃ k : Nat, k < zs.length ∧ (∀ z ∈ zs.take k, Lib.validRune z = true) ∧ Lib.validRune (zs.getD k 0) = false ∧ e = .returned (.tuple #[.string ⟨#[]⟩, fault 3 k]))) := by
  obtain ⟨p, c, rfl, r1, r2, r3⟩ := hr
  obtain ⟨n, hn⟩ : ∃ n, n = zs.length := ⟨_, rfl⟩
  rw [← hn] at r1 r3 hl ⊢
  have HN : Hid (n = zs.length) := hn
  clear hn
  have R3 : Hid (zs ≠ [] → ∃ b o, p = some ⟨b, o, none⟩ ∧ b < w.heap.size ∧ ∀ i, i < n → w.cell? ⟨b, o + i, none⟩ = some (.int .i32 (zs.getD i 0))) := r3
  have HZ : Hid (∀ z ∈ zs, -2147483648 ≤ z ∧ z ≤ 2147483647) := hz
  clear r3 hz
  unfold fault
  go_enter Tryd.func24, Tryd.ntmps24
  go_wp2
  go_loopw [4, 9] (fun s i wr => ∃ (k : Nat) (t : ByteArray), k ≤ n ∧ i = .int .i64 k ∧ s = .string t ∧ t = ⟨(encZ (zs.take k)).toArray⟩ ∧ (∀ z ∈ zs.take k, Lib.validRune z = true) ∧
      wr.cell? ⟨w.heap.size, 0, none⟩ = some (.int .i64 0) ∧ wr.cell? ⟨w.heap.size, 1, none⟩ = some (.int .i64 0) ∧ wr.frozen? ⟨w.heap.size, 0, none⟩ = false ∧ wr.frozen? ⟨w.heap.size, 1, none⟩ = false ∧ Below w.heap.size w wr) (fun _ i _ => n - (intOf i).toNat)
  case atStart => exact ⟨0, ⟨#[]⟩, Nat.zero_le _, rfl, rfl, rfl, by simp, by simp [go_sem], by simp [go_sem], by simp [go_sem], by simp [go_sem], (Below.refl _ _).alloc (Nat.le_refl _) _⟩
  case round =>
    obtain ⟨k, t, hk, rfl, rfl, ht, hval, c0, c1, f0, f1, hwr⟩ := hrel
    by_cases hlt : k < n
    · have hne : zs ≠ [] := by intro e; rw [HN.out, e] at hlt; exact absurd hlt (Nat.not_lt_zero _)
      obtain ⟨b, o, rfl, hbw, hcell⟩ := R3.out hne
      have hc := (hwr.cell (p := ⟨b, o + k, none⟩) hbw).trans (hcell k hlt)
      obtain ⟨z, hz⟩ : ∃ z, z = zs.getD k 0 := ⟨_, rfl⟩
      rw [← hz] at hc
      have hzr := HZ.out z (by rw [hz, List.getD_eq_getElem?_getD, List.getElem?_eq_getElem (by rw [← HN.out]; exact hlt)]; exact List.getElem_mem _)
      have hzk : Hid (z = zs.getD k 0) := hz
      have hts : Hid (zs.take (k + 1) = zs.take k ++ [z]) := by rw [hz]; exact take_succ zs k (by rw [← HN.out]; exact hlt)
      clear hz hcell hne
      have cV := Rune_any z hzr.1 hzr.2 wr
      by_cases hv : Lib.validRune z = true
      · rw [hv] at cV
        obtain ⟨r, hzz, hrr⟩ := rune_of_valid hv
        have cB := Bytes_any r hrr wr
        rw [← hzz] at cB
        have hval' : Hid (∀ y ∈ zs.take (k + 1), Lib.validRune y = true) := by
          show ∀ y ∈ zs.take (k + 1), Lib.validRune y = true
          rw [hts.out]
          intro y hy
          rcases List.mem_append.1 hy with hy | hy
          · exact hval y hy
          · rw [List.mem_singleton.1 hy]; exact hv
        have hlen := encZ_len (zs.take (k + 1))
        rw [List.length_take] at hlen
        have ht' : Hid (t ++ ⟨(enc r).toArray⟩ = ⟨(encZ (zs.take (k + 1))).toArray⟩) := by
          show _ = _
          rw [ht, str_append, hts.out, encZ_snoc, hzz]
          rfl
        have hsz : t.size + (⟨(enc r).toArray⟩ : ByteArray).size ≤ 400000000 := by
          have e := congrArg ByteArray.size ht'.out
          rw [ByteArray.size_append] at e
          rw [e, Lib.size_eq]
          show (encZ (zs.take (k + 1))).length ≤ _
          omega
        generalize (⟨(enc r).toArray⟩ : ByteArray) = u at cB ht' hsz
        have HT : Hid (t = ⟨(encZ (zs.take k)).toArray⟩) := ht
        clear hval hv hzk hts hzr R3 HZ hzz hrr hlen ht
        go_wp2_with (first | (go_at_call 74; refine cV.mono ?_; rintro e wx ⟨rfl, rfl⟩) | (go_at_call 71; refine cB.mono ?_; rintro e w1 ⟨rfl, hb1⟩) | fail)
        have hbl : w.heap.size < wx.heap.size := World.block_lt_of_cell? wx _ c0
        have e0 := (hb1.cell (p := ⟨w.heap.size, 0, none⟩) hbl).trans c0
        have e1 := (hb1.cell (p := ⟨w.heap.size, 1, none⟩) hbl).trans c1
        have g0 := (hb1.frozen (p := ⟨w.heap.size, 0, none⟩) hbl).trans f0
        have g1 := (hb1.frozen (p := ⟨w.heap.size, 1, none⟩) hbl).trans f1
        have hw1 := hwr.trans (hb1.mono hwr.size)
        go_roundw
        case rel => exact ⟨k + 1, _, by omega, by go_num, rfl, ht'.out, hval'.out, e0, e1, g0, g1, hw1⟩
        case measure => simp [intOf]; omega
      · have hv : Lib.validRune z = false := Bool.eq_false_iff.2 hv
        rw [hv] at cV
        have hfin : Hid (∀ y ∈ zs.take k, Lib.validRune y = true) := hval
        have hbad : Hid (Lib.validRune (zs.getD k 0) = false) := by rw [← hzk.out]; exact hv
        clear hval hv hzk hts hzr R3 HZ ht
        go_wp2_with (first | (go_at_call 74; refine cV.mono ?_; rintro e wx ⟨rfl, rfl⟩) | fail)
        refine bodyPost_ret (v := .tuple #[.string ⟨#[]⟩, .agg #[.int .i64 3, .int .i64 k]]) (by simp [results, Tryd.results24, go_sem, c0, c1]) rfl ?_
        refine ⟨?_, .inr ⟨k, hlt, hfin.out, hbad.out, rfl⟩⟩
        exact (hwr.setCell (p := ⟨w.heap.size, 0, none⟩) (Nat.le_refl _) _).setCell (p := ⟨w.heap.size, 1, none⟩) (Nat.le_refl _) _
    · have e : zs.take k = zs := List.take_of_length_le (by rw [← HN.out]; omega)
      rw [e] at hval ht
      have hval' : Hid (∀ y ∈ zs, Lib.validRune y = true) := hval
      have ht' : Hid (t = ⟨(encZ zs).toArray⟩) := ht
      have hbl : w.heap.size < wr.heap.size := World.block_lt_of_cell? wr _ c0
      clear hval e R3 HZ ht
      go_wp2_with (first | (go_at_call 62; refine (Bare_any _ _).mono ?_; rintro e w1 ⟨rfl, hb1⟩; have e0 := (hb1.cell (p := ⟨w.heap.size, 0, none⟩) hbl).trans c0; have e1 := (hb1.cell (p := ⟨w.heap.size, 1, none⟩) hbl).trans c1; have g0 := (hb1.frozen (p := ⟨w.heap.size, 0, none⟩) hbl).trans f0; have g1 := (hb1.frozen (p := ⟨w.heap.size, 1, none⟩) hbl).trans f1) | fail)
      refine bodyPost_ret (v := .tuple #[.string t, .agg #[.int .i64 0, .int .i64 (-1)]]) (by simp [results, Tryd.results24, go_sem, e0, e1]) rfl ?_
      refine ⟨?_, .inl ⟨hval'.out, by rw [ht'.out]⟩⟩
      exact ((hwr.trans (hb1.mono hwr.size)).setCell (p := ⟨w.heap.size, 0, none⟩) (Nat.le_refl _) _).setCell (p := ⟨w.heap.size, 1, none⟩) (Nat.le_refl _) _

/-! ### ref.FromHalves -/
theorem scanH_valid (n : Nat) : ∀ (zs : List Int), zs.length ≤ n → ∀ p ∈ (scanH zs).1, Lib.validRune p.1 = true := by
  induction n with
  | zero =>
    intro zs hl p hp
    obtain rfl : zs = [] := by cases zs <;> simp_all
    rw [scanH_nil] at hp
    cases hp
  | succ n ih =>
    intro zs hl p hp
    by_cases h : zs = []
    · subst h; rw [scanH_nil] at hp; cases hp
    by_cases hv : Lib.validRune (leadZ zs).1 = true
    · rw [scanH_good h hv] at hp
      have w1 := leadZ_ge1 zs
      rcases List.mem_cons.1 hp with rfl | hp
      · exact hv
      · exact ih _ (by rw [List.length_drop]; omega) p hp
    · rw [scanH_bad h (Bool.eq_false_iff.2 hv)] at hp
      cases hp
theorem firstB_in (z : Int) : inB z 55296 56319 = firstB z := by unfold inB firstB; apply decide_eq_decide.2; omega
theorem secondB_in (z : Int) : inB z 56320 57343 = secondB z := by unfold inB secondB; apply decide_eq_decide.2; omega
theorem half_in (z : Int) (h0 : 0 ≤ z) (h1 : z < 65536) : inB z 55296 57343 = !Lib.validRune z := by
  by_cases h : inB z 55296 57343 = true
  · have := of_decide_eq_true h
    have h2 : Lib.validRune z = false := by unfold Lib.validRune; apply decide_eq_false; omega
    rw [h, h2]; rfl
  · have h := Bool.eq_false_iff.2 h
    have := of_decide_eq_false h
    have h2 : Lib.validRune z = true := by unfold Lib.validRune; apply decide_eq_true; omega
    rw [h, h2]; rfl

set_option maxRecDepth 100000 in
set_option maxHeartbeats 4000000 in
theorem refFromHalves_any (v : Value) (zs : List Int) (w : World) (hz : ∀ z ∈ zs, 0 ≤ z ∧ z < 65536) (hr : reads w .u16 v zs) (hl : zs.length < 100000000) :
    Calls Tryd.prog 26 #[v] w fun e w' => Below w.heap.size w w' ∧
      (((scanH zs).2 = true ∧ e = .returned (.tuple #[.string ⟨(encZ ((scanH zs).1.map (·.1))).toArray⟩, fault 0 (-1)])) ∨
       ((scanH zs).2 = false ∧ e = .returned (.tuple #[.string ⟨#[]⟩, fault 3 (placeH zs)]))) := by
  obtain ⟨p, c, rfl, r1, r2, r3⟩ := hr
  obtain ⟨n, hn⟩ : ∃ n, n = zs.length := ⟨_, rfl⟩
  rw [← hn] at r1 r3 hl ⊢
  have HN : Hid (n = zs.length) := hn
  clear hn
  have R3 : Hid (zs ≠ [] → ∃ b o, p = some ⟨b, o, none⟩ ∧ b < w.heap.size ∧ ∀ i, i < n → w.cell? ⟨b, o + i, none⟩ = some (.int .u16 (zs.getD i 0))) := r3
  have HZ : Hid (∀ z ∈ zs, 0 ≤ z ∧ z < 65536) := hz
  clear r3 hz
  obtain ⟨i0, hi, hz0, hz1, hz2⟩ := info_parts info21
  unfold fault
  go_enter Tryd.func26, Tryd.ntmps26
  go_wp2
  go_loopw [4, 5] (fun b i wr => ∃ (k : Nat) (done : List (Int × Nat)), k ≤ n ∧ i = .int .i64 k ∧ (scanH zs).1 = done ++ (scanH (zs.drop k)).1 ∧ (done.map (·.2)).sum = k ∧ (scanH zs).2 = (scanH (zs.drop k)).2 ∧ done.length ≤ k ∧
      wr.ownsRow (w.heap.size + 1) 21 1 b done.length (done.map fun p => Value.int .i32 p.1) ∧
      wr.cell? ⟨w.heap.size, 0, none⟩ = some (.int .i64 0) ∧ wr.cell? ⟨w.heap.size, 1, none⟩ = some (.int .i64 0) ∧ wr.frozen? ⟨w.heap.size, 0, none⟩ = false ∧ wr.frozen? ⟨w.heap.size, 1, none⟩ = false ∧ Below w.heap.size w wr) (fun _ i _ => n - (intOf i).toNat)
  case atStart => exact ⟨0, [], Nat.zero_le _, rfl, by rw [List.drop_zero]; rfl, rfl, by rw [List.drop_zero], Nat.le_refl _, World.ownsRow_nil _ _ _ _, by simp [go_sem], by simp [go_sem], by simp [go_sem], by simp [go_sem], (Below.refl _ _).alloc (Nat.le_refl _) _⟩
  case round =>
    obtain ⟨k, done, hk, rfl, hd1, hd2, hd3, hdl, hown, c0, c1, f0, f1, hwr⟩ := hrel
    by_cases hlt : k < n
    · have hne : zs ≠ [] := by intro e; rw [HN.out, e] at hlt; exact absurd hlt (Nat.not_lt_zero _)
      have hne2 : zs.drop k ≠ [] := by
        intro e
        have := congrArg List.length e
        rw [List.length_drop, List.length_nil, ← HN.out] at this
        omega
      obtain ⟨b, o, rfl, hbw, hcell⟩ := R3.out hne
      have hkz : k < zs.length := by rw [← HN.out]; exact hlt
      have hc := (hwr.cell (p := ⟨b, o + k, none⟩) hbw).trans (hcell k hlt)
      obtain ⟨z, hzz⟩ : ∃ z, z = zs.getD k 0 := ⟨_, rfl⟩
      have hze : zs.getD k 0 = zs[k] := by rw [List.getD_eq_getElem?_getD, List.getElem?_eq_getElem hkz]; rfl
      rw [← hzz] at hc
      have hzr := HZ.out z (by rw [hzz, hze]; exact List.getElem_mem _)
      obtain ⟨q0, q1⟩ := hzr
      have hdr : zs.drop k = z :: zs.drop (k + 1) := by rw [hzz, hze]; exact List.drop_eq_getElem_cons hkz
      have hbl : w.heap.size < wr.heap.size := World.block_lt_of_cell? wr _ c0
      have hdn : done.length < 100000000 := by omega
      have cI1 := in_any z 55296 56319
      have cI3 := in_any z 55296 57343
      rw [firstB_in] at cI1
      rw [half_in z q0 q1] at cI3
      by_cases hf1 : firstB z = true
      · rw [hf1] at cI1
        have hvz : Lib.validRune z = false := by
          have := of_decide_eq_true hf1
          unfold Lib.validRune
          apply decide_eq_false
          omega
        rw [hvz] at cI3
        by_cases hk2 : k + 1 < n
        · have hkz2 : k + 1 < zs.length := by rw [← HN.out]; exact hk2
          have hc2 := (hwr.cell (p := ⟨b, o + (k + 1), none⟩) hbw).trans (hcell (k + 1) hk2)
          obtain ⟨z2, hzz2⟩ : ∃ z, z = zs.getD (k + 1) 0 := ⟨_, rfl⟩
          have hze2 : zs.getD (k + 1) 0 = zs[k + 1] := by rw [List.getD_eq_getElem?_getD, List.getElem?_eq_getElem hkz2]; rfl
          rw [← hzz2] at hc2
          obtain ⟨q2, q3⟩ := HZ.out z2 (by rw [hzz2, hze2]; exact List.getElem_mem _)
          have hdr2 : zs.drop (k + 1) = z2 :: zs.drop (k + 1 + 1) := by rw [hzz2, hze2]; exact List.drop_eq_getElem_cons hkz2
          have cI2 := in_any z2 56320 57343
          rw [secondB_in] at cI2
          by_cases hs1 : secondB z2 = true
          · rw [hs1] at cI2
            have d1 := of_decide_eq_true hf1
            have d2 := of_decide_eq_true hs1
            have hp : leadZ (zs.drop k) = ((65536 + (z - 55296) * 1024 + z2 - 56320), 2) := by rw [hdr, hdr2]; simp only [leadZ, hf1, hs1, Bool.and_self, if_true]; refine Prod.ext ?_ rfl; show (65536 + ((z - 55296) * 1024 + (z2 - 56320)) : Int) = _; omega
            have hv : Lib.validRune (leadZ (zs.drop k)).1 = true := by rw [hp]; unfold Lib.validRune; apply decide_eq_true; show (0 ≤ (65536 + (z - 55296) * 1024 + z2 - 56320) ∧ (65536 + (z - 55296) * 1024 + z2 - 56320) < 55296) ∨ _; omega
            have hs2 := scanH_good hne2 hv
            rw [hp] at hs2
            have hnext : Hid ((scanH zs).1 = done ++ [((65536 + (z - 55296) * 1024 + z2 - 56320), 2)] ++ (scanH (zs.drop (k + 2))).1) := by
              show _ = _
              rw [hd1, hs2, List.append_assoc]
              simp only [List.drop_drop]
              rfl
            have hnext2 : Hid (((done ++ [((65536 + (z - 55296) * 1024 + z2 - 56320), 2)] : List (Int × Nat)).map (·.2)).sum = k + 2) := by
              show _ = _
              rw [List.map_append, List.sum_append, hd2]; rfl
            have hnext3 : Hid ((scanH zs).2 = (scanH (zs.drop (k + 2))).2) := by
              show _ = _
              rw [hd3, hs2]
              simp only [List.drop_drop]
            have hnext4 : Hid ((done ++ [((65536 + (z - 55296) * 1024 + z2 - 56320), 2)] : List (Int × Nat)).length ≤ k + 2) := by
              show _ ≤ _
              rw [List.length_append]
              simp
              omega
            have NX : Hid (∀ w1 v' o, w1.ownsRow (w.heap.size + 1) 21 1 v' (done.length + 1) ((done.map fun p => Value.int .i32 p.1) ++ [.int .i32 (65536 + (z - 55296) * 1024 + z2 - 56320)]) → (wr.alloc o).grownBy w1 (u4).ownBlock →
                w1.ownsRow (w.heap.size + 1) 21 1 v' (done ++ [((65536 + (z - 55296) * 1024 + z2 - 56320), 2)] : List (Int × Nat)).length ((done ++ [((65536 + (z - 55296) * 1024 + z2 - 56320), 2)] : List (Int × Nat)).map fun p => Value.int .i32 p.1) ∧
                w1.cell? ⟨w.heap.size, 0, none⟩ = some (.int .i64 0) ∧ w1.cell? ⟨w.heap.size, 1, none⟩ = some (.int .i64 0) ∧ w1.frozen? ⟨w.heap.size, 0, none⟩ = false ∧ w1.frozen? ⟨w.heap.size, 1, none⟩ = false ∧ Below w.heap.size w w1) := by
              intro w1 v' o h1 hg
              have hB : Below (w.heap.size + 1) wr w1 := ((Below.refl _ wr).alloc hbl o).grown hg (by rw [World.size_alloc]; omega) fun k hk => (hown.lt k hk).1
              refine ⟨?_, (hB.cell (p := ⟨w.heap.size, 0, none⟩) (Nat.lt_succ_self _)).trans c0, (hB.cell (p := ⟨w.heap.size, 1, none⟩) (Nat.lt_succ_self _)).trans c1, (hB.frozen (p := ⟨w.heap.size, 0, none⟩) (Nat.lt_succ_self _)).trans f0, (hB.frozen (p := ⟨w.heap.size, 1, none⟩) (Nat.lt_succ_self _)).trans f1, hwr.trans (hB.mono (Nat.le_succ _))⟩
              rw [List.length_append, List.map_append]
              exact h1
            obtain ⟨pb, cb, rfl⟩ := own_slice hown
            obtain ⟨d3, d4⟩ := d1
            obtain ⟨d5, d6⟩ := d2
            clear hd1 hd2 hd3 hdl hs2 hv hvz hp R3 HZ hcell hne hne2 hkz hkz2 hdr hdr2 hzz hzz2 hze hze2 hf1 hs1 cI3
            go_wp2_with (first | (go_at_call_of 78 (56319 : Int); refine (cI1 _).mono ?_; rintro e wx ⟨rfl, hwx⟩; obtain rfl := hwx.symm) | (go_at_call_of 78 (56320 : Int); refine (cI2 _).mono ?_; rintro e wx ⟨rfl, hwx⟩; obtain rfl := hwx.symm) | (at_builtin; refine wpList_append_own _ rfl (.tmp 36) (.tmp 50) 22 rfl (w.heap.size + 1) 21 i0 (.int .i32 0) 1 4 Tryd.underlying22 hi hz0 hz1 hz2 rfl (by decide) _ _ _ rfl (hown.alloc _) ⟨wr.heap.size, 0, none⟩ 1 1 [.int .i32 (65536 + (z - 55296) * 1024 + z2 - 56320)] rfl rfl (cell_one_new _ _ _) (ints_oneCell .i32 [(65536 + (z - 55296) * 1024 + z2 - 56320)]) (by unfold maxLen; omega) (by omega) (by first | omega | (simp; omega)) ?_; intro v' w1 hown1 hg _) | fail)
            have hnx := NX.out w1 v' _ hown1 hg
            obtain ⟨n0, n1, n2, n3, n4, n5⟩ := hnx
            clear hown1 hg hown
            go_wp2
            go_roundw
            case rel => exact ⟨k + 2, _, by omega, by go_num, hnext.out, hnext2.out, hnext3.out, hnext4.out, n0, n1, n2, n3, n4, n5⟩
            case measure => simp [intOf]; omega
          · have hs1 : secondB z2 = false := Bool.eq_false_iff.2 hs1
            rw [hs1] at cI2
            have hv := hvz
            have hp : leadZ (zs.drop k) = (z, 1) := by rw [hdr, hdr2]; simp only [leadZ, hf1, hs1]; rfl
            have hs2 := scanH_bad hne2 (by rw [hp]; exact hv)
            have hpl : Hid (placeH zs = k) := by
              show _ = _
              unfold placeH
              rw [hd1, hs2, List.append_nil, hd2]
            have hf : Hid ((scanH zs).2 = false) := by show _ = _; rw [hd3, hs2]
            clear hd1 hd2 hd3 hdl hs2 hv hvz hp R3 HZ hcell hne hne2 hkz hkz2 hdr hdr2 hzz hzz2 hze hze2 hf1 hs1 hown
            go_wp2_with (first | (go_at_call_of 78 (56319 : Int); refine (cI1 _).mono ?_; rintro e wx ⟨rfl, hwx⟩; obtain rfl := hwx.symm) | (go_at_call_of 78 (56320 : Int); refine (cI2 _).mono ?_; rintro e wx ⟨rfl, hwx⟩; obtain rfl := hwx.symm) | (go_at_call 78; refine (cI3 _).mono ?_; rintro e wx ⟨rfl, hwx⟩; obtain rfl := hwx.symm) | fail)
            refine bodyPost_ret (v := .tuple #[.string ⟨#[]⟩, .agg #[.int .i64 3, .int .i64 k]]) (by simp [results, Tryd.results26, go_sem, c0, c1]) rfl ?_
            refine ⟨(hwr.setCell (p := ⟨w.heap.size, 0, none⟩) (Nat.le_refl _) _).setCell (p := ⟨w.heap.size, 1, none⟩) (Nat.le_refl _) _, .inr ⟨hf.out, by rw [hpl.out]⟩⟩
        · have hk2' : ¬ ((k : Int) + 1 < (n : Int)) := by omega
          have hdr2 : zs.drop (k + 1) = [] := List.drop_eq_nil_of_le (by rw [← HN.out]; omega)
          have hv := hvz
          have hp : leadZ (zs.drop k) = (z, 1) := by rw [hdr, hdr2]; rfl
          have hs2 := scanH_bad hne2 (by rw [hp]; exact hv)
          have hpl : Hid (placeH zs = k) := by
            show _ = _
            unfold placeH
            rw [hd1, hs2, List.append_nil, hd2]
          have hf : Hid ((scanH zs).2 = false) := by show _ = _; rw [hd3, hs2]
          clear hd1 hd2 hd3 hdl hs2 hv hvz hp R3 HZ hcell hne hne2 hkz hdr hdr2 hzz hze hf1 hown
          go_wp2_with (first | (go_at_call_of 78 (56319 : Int); refine (cI1 _).mono ?_; rintro e wx ⟨rfl, hwx⟩; obtain rfl := hwx.symm) | (go_at_call 78; refine (cI3 _).mono ?_; rintro e wx ⟨rfl, hwx⟩; obtain rfl := hwx.symm) | fail)
          refine bodyPost_ret (v := .tuple #[.string ⟨#[]⟩, .agg #[.int .i64 3, .int .i64 k]]) (by simp [results, Tryd.results26, go_sem, c0, c1]) rfl ?_
          refine ⟨(hwr.setCell (p := ⟨w.heap.size, 0, none⟩) (Nat.le_refl _) _).setCell (p := ⟨w.heap.size, 1, none⟩) (Nat.le_refl _) _, .inr ⟨hf.out, by rw [hpl.out]⟩⟩
      · have hf1 : firstB z = false := Bool.eq_false_iff.2 hf1
        rw [hf1] at cI1
        have hlead : leadZ (zs.drop k) = (z, 1) := by
          rw [hdr]
          cases zs.drop (k + 1) with
          | nil => rfl
          | cons y t => simp [leadZ, hf1]
        by_cases hv : Lib.validRune z = true
        · rw [hv] at cI3
          have hvz := hv
          have hp : leadZ (zs.drop k) = (z, 1) := hlead
          have hv2 : Lib.validRune (leadZ (zs.drop k)).1 = true := by rw [hp]; exact hv
          have hs2 := scanH_good hne2 hv2
          rw [hp] at hs2
          have hnext : Hid ((scanH zs).1 = done ++ [(z, 1)] ++ (scanH (zs.drop (k + 1))).1) := by
            show _ = _
            rw [hd1, hs2, List.append_assoc]
            simp only [List.drop_drop]
            rfl
          have hnext2 : Hid (((done ++ [(z, 1)] : List (Int × Nat)).map (·.2)).sum = k + 1) := by
            show _ = _
            rw [List.map_append, List.sum_append, hd2]; rfl
          have hnext3 : Hid ((scanH zs).2 = (scanH (zs.drop (k + 1))).2) := by
            show _ = _
            rw [hd3, hs2]
            simp only [List.drop_drop]
          have hnext4 : Hid ((done ++ [(z, 1)] : List (Int × Nat)).length ≤ k + 1) := by
            show _ ≤ _
            rw [List.length_append]
            simp
            omega
          have NX : Hid (∀ w1 v' o, w1.ownsRow (w.heap.size + 1) 21 1 v' (done.length + 1) ((done.map fun p => Value.int .i32 p.1) ++ [.int .i32 z]) → (wr.alloc o).grownBy w1 (u4).ownBlock →
              w1.ownsRow (w.heap.size + 1) 21 1 v' (done ++ [(z, 1)] : List (Int × Nat)).length ((done ++ [(z, 1)] : List (Int × Nat)).map fun p => Value.int .i32 p.1) ∧
              w1.cell? ⟨w.heap.size, 0, none⟩ = some (.int .i64 0) ∧ w1.cell? ⟨w.heap.size, 1, none⟩ = some (.int .i64 0) ∧ w1.frozen? ⟨w.heap.size, 0, none⟩ = false ∧ w1.frozen? ⟨w.heap.size, 1, none⟩ = false ∧ Below w.heap.size w w1) := by
            intro w1 v' o h1 hg
            have hB : Below (w.heap.size + 1) wr w1 := ((Below.refl _ wr).alloc hbl o).grown hg (by rw [World.size_alloc]; omega) fun k hk => (hown.lt k hk).1
            refine ⟨?_, (hB.cell (p := ⟨w.heap.size, 0, none⟩) (Nat.lt_succ_self _)).trans c0, (hB.cell (p := ⟨w.heap.size, 1, none⟩) (Nat.lt_succ_self _)).trans c1, (hB.frozen (p := ⟨w.heap.size, 0, none⟩) (Nat.lt_succ_self _)).trans f0, (hB.frozen (p := ⟨w.heap.size, 1, none⟩) (Nat.lt_succ_self _)).trans f1, hwr.trans (hB.mono (Nat.le_succ _))⟩
            rw [List.length_append, List.map_append]
            exact h1
          obtain ⟨pb, cb, rfl⟩ := own_slice hown
          clear hd1 hd2 hd3 hdl hs2 hv hv2 hvz hp R3 HZ hcell hne hne2 hkz hdr hzz hze hf1 hlead
          go_wp2_with (first | (go_at_call_of 78 (56319 : Int); refine (cI1 _).mono ?_; rintro e wx ⟨rfl, hwx⟩; obtain rfl := hwx.symm) | (go_at_call 78; refine (cI3 _).mono ?_; rintro e wx ⟨rfl, hwx⟩; obtain rfl := hwx.symm) | (at_builtin; refine wpList_append_own _ rfl (.tmp 58) (.tmp 61) 22 rfl (w.heap.size + 1) 21 i0 (.int .i32 0) 1 4 Tryd.underlying22 hi hz0 hz1 hz2 rfl (by decide) _ _ _ rfl (hown.alloc _) ⟨wr.heap.size, 0, none⟩ 1 1 [.int .i32 z] rfl rfl (cell_one_new _ _ _) (ints_oneCell .i32 [z]) (by unfold maxLen; omega) (by omega) (by first | omega | (simp; omega)) ?_; intro v' w1 hown1 hg _) | fail)
          have hnx := NX.out w1 v' _ hown1 hg
          obtain ⟨n0, n1, n2, n3, n4, n5⟩ := hnx
          clear hown1 hg hown
          go_wp2
          go_roundw
          case rel => exact ⟨k + 1, _, by omega, by go_num, hnext.out, hnext2.out, hnext3.out, hnext4.out, n0, n1, n2, n3, n4, n5⟩
          case measure => simp [intOf]; omega
        · have hv : Lib.validRune z = false := Bool.eq_false_iff.2 hv
          rw [hv] at cI3
          have hp : leadZ (zs.drop k) = (z, 1) := hlead
          have hs2 := scanH_bad hne2 (by rw [hp]; exact hv)
          have hpl : Hid (placeH zs = k) := by
            show _ = _
            unfold placeH
            rw [hd1, hs2, List.append_nil, hd2]
          have hf : Hid ((scanH zs).2 = false) := by show _ = _; rw [hd3, hs2]
          clear hd1 hd2 hd3 hdl hs2 hv hp R3 HZ hcell hne hne2 hkz hdr hzz hze hf1 hlead hown
          go_wp2_with (first | (go_at_call_of 78 (56319 : Int); refine (cI1 _).mono ?_; rintro e wx ⟨rfl, hwx⟩; obtain rfl := hwx.symm) | (go_at_call 78; refine (cI3 _).mono ?_; rintro e wx ⟨rfl, hwx⟩; obtain rfl := hwx.symm) | fail)
          refine bodyPost_ret (v := .tuple #[.string ⟨#[]⟩, .agg #[.int .i64 3, .int .i64 k]]) (by simp [results, Tryd.results26, go_sem, c0, c1]) rfl ?_
          refine ⟨(hwr.setCell (p := ⟨w.heap.size, 0, none⟩) (Nat.le_refl _) _).setCell (p := ⟨w.heap.size, 1, none⟩) (Nat.le_refl _) _, .inr ⟨hf.out, by rw [hpl.out]⟩⟩
    · have e : zs.drop k = [] := List.drop_eq_nil_of_le (by rw [← HN.out]; omega)
      rw [e, scanH_nil] at hd1 hd3
      rw [List.append_nil] at hd1
      have hbl : w.heap.size < wr.heap.size := World.block_lt_of_cell? wr _ c0
      have hown' : wr.ownsRow (w.heap.size + 1) 21 1 u4 (done.map (·.1)).length (done.map fun p => Value.int .i32 p.1) := by rw [List.length_map]; exact hown
      have hrd : reads wr .i32 u4 (done.map (·.1)) := reads_own (by rw [List.map_map]; rfl) hown'
      have hval : ∀ y ∈ done.map (·.1), Lib.validRune y = true := by
        rw [← hd1]
        intro y hy
        obtain ⟨q, hq, rfl⟩ := List.mem_map.1 hy
        exact scanH_valid zs.length zs (Nat.le_refl _) q hq
      have cT := refText_any u4 (done.map (·.1)) wr (fun y hy => by
        have := of_decide_eq_true (hval y hy)
        omega) hrd (by rw [List.length_map]; omega)
      have cT2 : Calls Tryd.prog 24 #[u4] wr fun e w' => e = .returned (.tuple #[.string ⟨(encZ (done.map (·.1))).toArray⟩, .agg #[.int .i64 0, .int .i64 (-1)]]) ∧ Below wr.heap.size wr w' := by
        refine cT.mono ?_
        rintro e w1 ⟨hb1, ⟨_, rfl⟩ | ⟨j, hj, _, hbad, rfl⟩⟩
        · exact ⟨rfl, hb1⟩
        · have := hval _ (show (done.map (·.1)).getD j 0 ∈ done.map (·.1) by rw [List.getD_eq_getElem?_getD, List.getElem?_eq_getElem hj]; exact List.getElem_mem _)
          rw [this] at hbad
          cases hbad
      have hf : Hid ((scanH zs).2 = true) := hd3
      have hd : Hid ((scanH zs).1 = done) := hd1
      obtain ⟨pb, cb, rfl⟩ := own_slice hown
      clear hown hown' hrd hval e R3 HZ hd1 hd3 cT
      go_wp2_with (first | (go_at_call 24; refine cT2.mono ?_; rintro e w1 ⟨rfl, hb1⟩; have e0 := (hb1.cell (p := ⟨w.heap.size, 0, none⟩) hbl).trans c0; have e1 := (hb1.cell (p := ⟨w.heap.size, 1, none⟩) hbl).trans c1; have g0 := (hb1.frozen (p := ⟨w.heap.size, 0, none⟩) hbl).trans f0; have g1 := (hb1.frozen (p := ⟨w.heap.size, 1, none⟩) hbl).trans f1) | fail)
      refine bodyPost_ret (v := .tuple #[.string ⟨(encZ (done.map (·.1))).toArray⟩, .agg #[.int .i64 0, .int .i64 (-1)]]) (by simp [results, Tryd.results26, go_sem, e0, e1]) rfl ?_
      refine ⟨((hwr.trans (hb1.mono hwr.size)).setCell (p := ⟨w.heap.size, 0, none⟩) (Nat.le_refl _) _).setCell (p := ⟨w.heap.size, 1, none⟩) (Nat.le_refl _) _, .inl ⟨hf.out, by rw [hd.out]⟩⟩
end Go.Proofs.YtgmgkbbnciglhaaDoor

namespace Go.Proofs.YtgmgkbbnciglhaaDoor

/-- What one to four bytes say, by division. -/
def val1 (b0 : Nat) : Nat := b0
def val2 (b0 b1 : Nat) : Nat := b0 % 32 * 64 + b1 % 64
def val3 (b0 b1 b2 : Nat) : Nat := b0 % 16 * 4096 + b1 % 64 * 64 + b2 % 64
def val4 (b0 b1 b2 b3 : Nat) : Nat := b0 % 8 * 262144 + b1 % 64 * 4096 + b2 % 64 * 64 + b3 % 64
def byteAt (l : List UInt8) (i : Nat) : Nat := (l.getD i 0).toNat
theorem byteAt_lt (l : List UInt8) (i : Nat) : byteAt l i < 256 := (l.getD i 0).toNat_lt
/-- The number of the first n bytes. -/
def valN (l : List UInt8) (n : Nat) : Nat :=
  if n = 1 then val1 (byteAt l 0) else if n = 2 then val2 (byteAt l 0) (byteAt l 1) else if n = 3 then val3 (byteAt l 0) (byteAt l 1) (byteAt l 2) else val4 (byteAt l 0) (byteAt l 1) (byteAt l 2) (byteAt l 3)
/-- These bytes are just that rune's. -/
def fits (l : List UInt8) (n : Nat) : Prop := isRune (valN l n) ∧ enc (valN l n) = l.take n

theorem valN_lt (l : List UInt8) (n : Nat) : valN l n < 2097152 := by
  have h0 := byteAt_lt l 0
  have h1 := byteAt_lt l 1
  have h2 := byteAt_lt l 2
  have h3 := byteAt_lt l 3
  unfold valN val1 val2 val3 val4
  split
  · omega
  split
  · omega
  split
  · omega
  · omega

/-- If they are, that rune begins there. -/
theorem dec_of_fits {l : List UInt8} {n : Nat} (hn : n ≤ l.length) (h : fits l n) : dec l = (valN l n, n) ∧ badB (dec l) = false := by
  obtain ⟨h1, h2⟩ := h
  have e : l = enc (valN l n) ++ l.drop n := by rw [h2]; exact (List.take_append_drop n l).symm
  have hl : (enc (valN l n)).length = n := by rw [h2, List.length_take]; omega
  have hd := dec_enc h1 (l.drop n)
  rw [← e, hl] at hd
  exact hd

theorem enc_val {r : Nat} (hr : isRune r) (t : List UInt8) : valN (enc r ++ t) (enc r).length = r := by
  unfold isRune at hr
  by_cases h1 : r ≤ 127
  · rw [enc1 h1]
    show byteAt (r.toUInt8 :: t) 0 = r
    unfold byteAt
    rw [List.getD_cons_zero, toU8 (show r < 256 by omega)]
  by_cases h2 : r ≤ 2047
  · rw [enc2 (by omega) h2]
    show val2 ((192 + r / 64).toUInt8.toNat) ((128 + r % 64).toUInt8.toNat) = r
    rw [toU8 (show 192 + r / 64 < 256 by omega), toU8 (show 128 + r % 64 < 256 by omega)]
    unfold val2
    omega
  by_cases h3 : r ≤ 65535
  · rw [enc3 (by omega)]
    show val3 ((224 + r / 4096).toUInt8.toNat) ((128 + r / 64 % 64).toUInt8.toNat) ((128 + r % 64).toUInt8.toNat) = r
    rw [toU8 (show 224 + r / 4096 < 256 by omega), toU8 (show 128 + r / 64 % 64 < 256 by omega), toU8 (show 128 + r % 64 < 256 by omega)]
    unfold val3
    omega
  · rw [enc4 (by omega) (by omega)]
    show val4 ((240 + r / 262144).toUInt8.toNat) ((128 + r / 4096 % 64).toUInt8.toNat) ((128 + r / 64 % 64).toUInt8.toNat) ((128 + r % 64).toUInt8.toNat) = r
    rw [toU8 (show 240 + r / 262144 < 256 by omega), toU8 (show 128 + r / 4096 % 64 < 256 by omega), toU8 (show 128 + r / 64 % 64 < 256 by omega), toU8 (show 128 + r % 64 < 256 by omega)]
    unfold val4
    omega

/-- If a rune begins there, its bytes are. -/
theorem fits_of_dec {l : List UInt8} (hne : l ≠ []) (hb : badB (dec l) = false) : fits l (dec l).2 ∧ valN l (dec l).2 = (dec l).1 := by
  obtain ⟨h1, h2⟩ := dec_good hne hb
  have hw := dec_le hne
  have hl : (enc (dec l).1).length = (dec l).2 := by rw [← h2, List.length_take]; omega
  have e : l = enc (dec l).1 ++ l.drop (dec l).2 := by rw [← h2]; exact (List.take_append_drop _ l).symm
  have hv : valN l (dec l).2 = (dec l).1 := by
    have := enc_val h1 (l.drop (dec l).2)
    rw [← e, hl] at this
    exact this
  exact ⟨⟨by rw [hv]; exact h1, by rw [hv]; exact h2.symm⟩, hv⟩

/-- What 'first' answers. -/
def firstOf (l : List UInt8) : Nat × Nat := if l = [] then (0, 0) else if badB (dec l) then (0, 0) else dec l
theorem firstOf_fits {l : List UInt8} {n : Nat} (h0 : 1 ≤ n) (hn : n ≤ l.length) (h : fits l n) : firstOf l = (valN l n, n) := by
  obtain ⟨h1, h2⟩ := dec_of_fits hn h
  have hne : l ≠ [] := by rintro rfl; simp at hn; omega
  unfold firstOf
  rw [if_neg hne, h2, h1]
  simp
/-- If none of one to four is, nothing begins there. -/
theorem firstOf_none {l : List UInt8} (h : ∀ n, 1 ≤ n → n ≤ 4 → n ≤ l.length → ¬ fits l n) : firstOf l = (0, 0) := by
  unfold firstOf
  by_cases hne : l = []
  · rw [if_pos hne]
  rw [if_neg hne]
  by_cases hb : badB (dec l) = true
  · rw [if_pos hb]
  · have hb : badB (dec l) = false := Bool.eq_false_iff.2 hb
    exact absurd (fits_of_dec hne hb).1 (h _ (dec_ge1 l) (dec_le4 l) (dec_le hne))
end Go.Proofs.YtgmgkbbnciglhaaDoor

namespace Go.Proofs.YtgmgkbbnciglhaaDoor
open Go.RowKit
set_option linter.unusedVariables false

theorem byteAt_elem (s : ByteArray) (i : Nat) (h : i < s.size) : (s[i]'h).toNat = byteAt s.data.toList i := by
  have e : s[i]'h = s.get! i := by
    show s.data[i] = s.data[i]!
    exact (getElem!_pos s.data i h).symm
  rw [e, get!_getD]; rfl

theorem fits_bytes (s : ByteArray) (k : Nat) : isRune (valN s.data.toList k) ∧ (⟨(enc (valN s.data.toList k)).toArray⟩ : ByteArray) = s.extract 0 k ↔ fits s.data.toList k := by
  have e : (s.extract 0 k).data.toList = s.data.toList.take k := by
    rw [Lib.extract_data, List.drop_zero, Nat.sub_zero]
  constructor
  · rintro ⟨h1, h2⟩
    refine ⟨h1, ?_⟩
    rw [← e, ← h2]
  · rintro ⟨h1, h2⟩
    refine ⟨h1, ?_⟩
    apply ByteArray.ext
    apply Array.toList_inj.1
    rw [e, ← h2]

theorem not_valid {r : Nat} (h : ¬ isRune r) : Lib.validRune (r : Int) = false := by
  unfold isRune at h
  unfold Lib.validRune
  apply decide_eq_false
  omega

theorem bytes_toList {a b : ByteArray} (h : a.toList = b.toList) : a = b := by
  rw [ByteArray.toList_eq, ByteArray.toList_eq] at h
  exact ByteArray.ext (Array.toList_inj.1 h)

set_option maxRecDepth 100000 in
set_option maxHeartbeats 2000000 in
theorem first_any (s : ByteArray) (hs : s.size < 100000000) (w : World) :
    Calls Tryd.prog 61 #[.string s] w fun e w' => e = .returned (.tuple #[.int .i32 (firstOf s.data.toList).1, .int .i64 (firstOf s.data.toList).2]) ∧ Below w.heap.size w w' := by
  have hsz : Hid (s.size = s.data.toList.length) := Lib.size_eq s
  obtain ⟨R1, hR1⟩ : ∃ z : Int, z = (firstOf s.data.toList).1 := ⟨_, rfl⟩
  obtain ⟨R2, hR2⟩ : ∃ z : Int, z = (firstOf s.data.toList).2 := ⟨_, rfl⟩
  rw [← hR1, ← hR2]
  have HR1 : Hid _ := hR1
  have HR2 : Hid _ := hR2
  clear hR1 hR2
  go_enter Tryd.func61, Tryd.ntmps61
  go_wp2
  go_loopw [4] (fun n wr => ∃ k : Nat, 1 ≤ k ∧ k ≤ 5 ∧ n = .int .i64 k ∧ (∀ j, 1 ≤ j → j < k → j ≤ s.data.toList.length → ¬ fits s.data.toList j) ∧ Below w.heap.size w wr) (fun n _ => 5 - (intOf n).toNat)
  case atStart => exact ⟨1, Nat.le_refl _, by omega, rfl, fun j h1 h2 => by omega, Below.refl _ _⟩
  case round =>
    obtain ⟨k, hk1, hk5, hn, hno, hwr⟩ := hrel
    by_cases hin : k ≤ 4 ∧ k ≤ s.size
    · obtain ⟨hk4, hks⟩ := hin
      have hnext : Hid (¬ fits s.data.toList k → ∀ j, 1 ≤ j → j < k + 1 → j ≤ s.data.toList.length → ¬ fits s.data.toList j) := fun hf j h1 h2 h3 => by
        by_cases hj : j = k
        · rw [hj]; exact hf
        · exact hno j h1 (by omega) h3
      have hret : Hid (fits s.data.toList k → firstOf s.data.toList = (valN s.data.toList k, k)) := fun hf => firstOf_fits hk1 (by rw [← hsz.out]; exact hks) hf
      have hpar : Hid (isRune (valN s.data.toList k) ∧ (⟨(enc (valN s.data.toList k)).toArray⟩ : ByteArray) = s.extract 0 k ↔ fits s.data.toList k) := fits_bytes s k
      have hV := valN_lt s.data.toList k
      clear hno
      obtain rfl | rfl | rfl | rfl : k = 1 ∨ k = 2 ∨ k = 3 ∨ k = 4 := by omega
      · obtain rfl : _ = Value.int .i64 1 := hn
        have p0 : 0 < s.size := by omega
        have e0 := byteAt_elem s 0 p0
        have l0 := byteAt_lt s.data.toList 0
        have hVV : (valN s.data.toList 1 : Int) = (byteAt s.data.toList 0 : Int) := by
          show ((byteAt s.data.toList 0 : Nat) : Int) = _
          omega
        have cR := Rune_any (valN s.data.toList 1) (by omega) (by omega)
        by_cases hval : isRune (valN s.data.toList 1)
        · have cB := Bytes_any _ hval
          have hvR := valid_of_rune hval
          rw [hvR] at cR
          have hpar2 : Hid ((⟨(enc (valN s.data.toList 1)).toArray⟩ : ByteArray) = s.extract 0 1 ↔ fits s.data.toList 1) := ⟨fun h => hpar.out.1 ⟨hval, h⟩, fun h => (hpar.out.2 h).2⟩
          generalize (⟨(enc (valN s.data.toList 1)).toArray⟩ : ByteArray) = u at cB hpar2
          rw [hVV] at cR cB
          clear hvR hval hpar hV
          generalize byteAt s.data.toList 0 = B0 at *
          have HV : Hid ((valN s.data.toList 1 : Int) = (B0 : Int)) := hVV
          clear hVV
          by_cases hu : u = s.extract 0 1
          · have hr := hret.out (hpar2.out.1 hu)
            have h1 : Hid (R1 = (B0 : Int)) := by show _ = _; rw [HR1.out, hr]; exact HV.out
            have h2 : Hid (R2 = 1) := by show _ = _; rw [HR2.out, hr]; rfl
            subst hu
            clear hr hret hnext hpar2
            go_wp2
            go_region_with (first | (go_at_call 74; refine (cR _).mono ?_; rintro e wx ⟨rfl, rfl⟩) | (go_at_call 71; refine (cB _).mono ?_; rintro e w1 ⟨rfl, hb1⟩))
            all_goals
              go_wp2
              go_ret2
              exact ⟨by rw [h1.out, h2.out]; rfl, (hwr.drew).trans (hb1.mono (by simpa using hwr.size))⟩
          · have hn' := hnext.out fun h => hu (hpar2.out.2 h)
            have HN : Hid _ := hn'
            have hue : (u.toList == (s.extract 0 1).toList) = false := beq_eq_false_iff_ne.2 fun h => hu (bytes_toList h)
            clear hn' hnext hret hpar2
            go_wp2
            go_region_with (first | (go_at_call 74; refine (cR _).mono ?_; rintro e wx ⟨rfl, rfl⟩) | (go_at_call 71; refine (cB _).mono ?_; rintro e w1 ⟨rfl, hb1⟩))
            all_goals
              go_wp2
              have hrel : ∃ k : Nat, 1 ≤ k ∧ k ≤ 5 ∧ Value.int .i64 2 = .int .i64 k ∧ (∀ j, 1 ≤ j → j < k → j ≤ s.data.toList.length → ¬ fits s.data.toList j) ∧ Below w.heap.size w w1 := ⟨2, by omega, by omega, rfl, HN.out, (hwr.drew).trans (hb1.mono (by simpa using hwr.size))⟩
              exact ⟨hrel, by simp [intOf]⟩
        · have hn' := hnext.out fun h => hval h.1
          have HN : Hid _ := hn'
          rw [not_valid hval, hVV] at cR
          clear hn' hnext hret hpar hval hV hVV
          generalize byteAt s.data.toList 0 = B0 at *
          go_wp2
          go_quiet (first | (go_at_call 74; refine (cR _).mono ?_; rintro e wx ⟨rfl, rfl⟩; exact ⟨rfl, _, rfl⟩))
          go_wp2
          have hrel : ∃ k : Nat, 1 ≤ k ∧ k ≤ 5 ∧ Value.int .i64 2 = .int .i64 k ∧ (∀ j, 1 ≤ j → j < k → j ≤ s.data.toList.length → ¬ fits s.data.toList j) ∧ Below w.heap.size w (wr.drewN (nq)) := ⟨2, by omega, by omega, rfl, HN.out, hwr.trans ⟨rfl, rfl, rfl, Nat.le_refl _, fun _ _ => rfl⟩⟩
          exact ⟨hrel, by simp [intOf]⟩
      · obtain rfl : _ = Value.int .i64 2 := hn
        have p0 : 0 < s.size := by omega
        have e0 := byteAt_elem s 0 p0
        have l0 := byteAt_lt s.data.toList 0
        have p1 : 1 < s.size := by omega
        have e1 := byteAt_elem s 1 p1
        have l1 := byteAt_lt s.data.toList 1
        have hVV : (valN s.data.toList 2 : Int) = (byteAt s.data.toList 0 : Int) % 32 * 64 + (byteAt s.data.toList 1 : Int) % 64 := by
          show ((byteAt s.data.toList 0 % 32 * 64 + byteAt s.data.toList 1 % 64 : Nat) : Int) = _
          omega
        have cR := Rune_any (valN s.data.toList 2) (by omega) (by omega)
        by_cases hval : isRune (valN s.data.toList 2)
        · have cB := Bytes_any _ hval
          have hvR := valid_of_rune hval
          rw [hvR] at cR
          have hpar2 : Hid ((⟨(enc (valN s.data.toList 2)).toArray⟩ : ByteArray) = s.extract 0 2 ↔ fits s.data.toList 2) := ⟨fun h => hpar.out.1 ⟨hval, h⟩, fun h => (hpar.out.2 h).2⟩
          generalize (⟨(enc (valN s.data.toList 2)).toArray⟩ : ByteArray) = u at cB hpar2
          rw [hVV] at cR cB
          clear hvR hval hpar hV
          generalize byteAt s.data.toList 0 = B0 at *
          generalize byteAt s.data.toList 1 = B1 at *
          have HV : Hid ((valN s.data.toList 2 : Int) = (B0 : Int) % 32 * 64 + (B1 : Int) % 64) := hVV
          clear hVV
          by_cases hu : u = s.extract 0 2
          · have hr := hret.out (hpar2.out.1 hu)
            have h1 : Hid (R1 = (B0 : Int) % 32 * 64 + (B1 : Int) % 64) := by show _ = _; rw [HR1.out, hr]; exact HV.out
            have h2 : Hid (R2 = 2) := by show _ = _; rw [HR2.out, hr]; rfl
            subst hu
            clear hr hret hnext hpar2
            go_wp2; go_region; go_wp2
            go_region_with (first | (go_at_call 74; refine (cR _).mono ?_; rintro e wx ⟨rfl, rfl⟩) | (go_at_call 71; refine (cB _).mono ?_; rintro e w1 ⟨rfl, hb1⟩))
            all_goals
              go_wp2
              go_ret2
              exact ⟨by rw [h1.out, h2.out]; rfl, (hwr.drew.drew).trans (hb1.mono (by simpa using hwr.size))⟩
          · have hn' := hnext.out fun h => hu (hpar2.out.2 h)
            have HN : Hid _ := hn'
            have hue : (u.toList == (s.extract 0 2).toList) = false := beq_eq_false_iff_ne.2 fun h => hu (bytes_toList h)
            clear hn' hnext hret hpar2
            go_wp2; go_region; go_wp2
            go_region_with (first | (go_at_call 74; refine (cR _).mono ?_; rintro e wx ⟨rfl, rfl⟩) | (go_at_call 71; refine (cB _).mono ?_; rintro e w1 ⟨rfl, hb1⟩))
            all_goals
              go_wp2
              have hrel : ∃ k : Nat, 1 ≤ k ∧ k ≤ 5 ∧ Value.int .i64 3 = .int .i64 k ∧ (∀ j, 1 ≤ j → j < k → j ≤ s.data.toList.length → ¬ fits s.data.toList j) ∧ Below w.heap.size w w1 := ⟨3, by omega, by omega, rfl, HN.out, (hwr.drew.drew).trans (hb1.mono (by simpa using hwr.size))⟩
              exact ⟨hrel, by simp [intOf]⟩
        · have hn' := hnext.out fun h => hval h.1
          have HN : Hid _ := hn'
          rw [not_valid hval, hVV] at cR
          clear hn' hnext hret hpar hval hV hVV
          generalize byteAt s.data.toList 0 = B0 at *
          generalize byteAt s.data.toList 1 = B1 at *
          go_wp2; go_region; go_wp2
          go_quiet (first | (go_at_call 74; refine (cR _).mono ?_; rintro e wx ⟨rfl, rfl⟩; exact ⟨rfl, _, rfl⟩))
          go_wp2
          have hrel : ∃ k : Nat, 1 ≤ k ∧ k ≤ 5 ∧ Value.int .i64 3 = .int .i64 k ∧ (∀ j, 1 ≤ j → j < k → j ≤ s.data.toList.length → ¬ fits s.data.toList j) ∧ Below w.heap.size w (wr.drewN (1 + nq)) := ⟨3, by omega, by omega, rfl, HN.out, hwr.trans ⟨rfl, rfl, rfl, Nat.le_refl _, fun _ _ => rfl⟩⟩
          exact ⟨hrel, by simp [intOf]⟩
      · obtain rfl : _ = Value.int .i64 3 := hn
        have p0 : 0 < s.size := by omega
        have e0 := byteAt_elem s 0 p0
        have l0 := byteAt_lt s.data.toList 0
        have p1 : 1 < s.size := by omega
        have e1 := byteAt_elem s 1 p1
        have l1 := byteAt_lt s.data.toList 1
        have p2 : 2 < s.size := by omega
        have e2 := byteAt_elem s 2 p2
        have l2 := byteAt_lt s.data.toList 2
        have hVV : (valN s.data.toList 3 : Int) = (byteAt s.data.toList 0 : Int) % 16 * 4096 + (byteAt s.data.toList 1 : Int) % 64 * 64 + (byteAt s.data.toList 2 : Int) % 64 := by
          show ((byteAt s.data.toList 0 % 16 * 4096 + byteAt s.data.toList 1 % 64 * 64 + byteAt s.data.toList 2 % 64 : Nat) : Int) = _
          omega
        have cR := Rune_any (valN s.data.toList 3) (by omega) (by omega)
        by_cases hval : isRune (valN s.data.toList 3)
        · have cB := Bytes_any _ hval
          have hvR := valid_of_rune hval
          rw [hvR] at cR
          have hpar2 : Hid ((⟨(enc (valN s.data.toList 3)).toArray⟩ : ByteArray) = s.extract 0 3 ↔ fits s.data.toList 3) := ⟨fun h => hpar.out.1 ⟨hval, h⟩, fun h => (hpar.out.2 h).2⟩
          generalize (⟨(enc (valN s.data.toList 3)).toArray⟩ : ByteArray) = u at cB hpar2
          rw [hVV] at cR cB
          clear hvR hval hpar hV
          generalize byteAt s.data.toList 0 = B0 at *
          generalize byteAt s.data.toList 1 = B1 at *
          generalize byteAt s.data.toList 2 = B2 at *
          have HV : Hid ((valN s.data.toList 3 : Int) = (B0 : Int) % 16 * 4096 + (B1 : Int) % 64 * 64 + (B2 : Int) % 64) := hVV
          clear hVV
          by_cases hu : u = s.extract 0 3
          · have hr := hret.out (hpar2.out.1 hu)
            have h1 : Hid (R1 = (B0 : Int) % 16 * 4096 + (B1 : Int) % 64 * 64 + (B2 : Int) % 64) := by show _ = _; rw [HR1.out, hr]; exact HV.out
            have h2 : Hid (R2 = 3) := by show _ = _; rw [HR2.out, hr]; rfl
            subst hu
            clear hr hret hnext hpar2
            go_wp2; go_region; go_wp2
            go_region_with (first | (go_at_call 74; refine (cR _).mono ?_; rintro e wx ⟨rfl, rfl⟩) | (go_at_call 71; refine (cB _).mono ?_; rintro e w1 ⟨rfl, hb1⟩))
            all_goals
              go_wp2
              go_ret2
              exact ⟨by rw [h1.out, h2.out]; rfl, (hwr.drew.drew).trans (hb1.mono (by simpa using hwr.size))⟩
          · have hn' := hnext.out fun h => hu (hpar2.out.2 h)
            have HN : Hid _ := hn'
            have hue : (u.toList == (s.extract 0 3).toList) = false := beq_eq_false_iff_ne.2 fun h => hu (bytes_toList h)
            clear hn' hnext hret hpar2
            go_wp2; go_region; go_wp2
            go_region_with (first | (go_at_call 74; refine (cR _).mono ?_; rintro e wx ⟨rfl, rfl⟩) | (go_at_call 71; refine (cB _).mono ?_; rintro e w1 ⟨rfl, hb1⟩))
            all_goals
              go_wp2
              have hrel : ∃ k : Nat, 1 ≤ k ∧ k ≤ 5 ∧ Value.int .i64 4 = .int .i64 k ∧ (∀ j, 1 ≤ j → j < k → j ≤ s.data.toList.length → ¬ fits s.data.toList j) ∧ Below w.heap.size w w1 := ⟨4, by omega, by omega, rfl, HN.out, (hwr.drew.drew).trans (hb1.mono (by simpa using hwr.size))⟩
              exact ⟨hrel, by simp [intOf]⟩
        · have hn' := hnext.out fun h => hval h.1
          have HN : Hid _ := hn'
          rw [not_valid hval, hVV] at cR
          clear hn' hnext hret hpar hval hV hVV
          generalize byteAt s.data.toList 0 = B0 at *
          generalize byteAt s.data.toList 1 = B1 at *
          generalize byteAt s.data.toList 2 = B2 at *
          go_wp2; go_region; go_wp2
          go_quiet (first | (go_at_call 74; refine (cR _).mono ?_; rintro e wx ⟨rfl, rfl⟩; exact ⟨rfl, _, rfl⟩))
          go_wp2
          have hrel : ∃ k : Nat, 1 ≤ k ∧ k ≤ 5 ∧ Value.int .i64 4 = .int .i64 k ∧ (∀ j, 1 ≤ j → j < k → j ≤ s.data.toList.length → ¬ fits s.data.toList j) ∧ Below w.heap.size w (wr.drewN (1 + nq)) := ⟨4, by omega, by omega, rfl, HN.out, hwr.trans ⟨rfl, rfl, rfl, Nat.le_refl _, fun _ _ => rfl⟩⟩
          exact ⟨hrel, by simp [intOf]⟩
      · obtain rfl : _ = Value.int .i64 4 := hn
        have p0 : 0 < s.size := by omega
        have e0 := byteAt_elem s 0 p0
        have l0 := byteAt_lt s.data.toList 0
        have p1 : 1 < s.size := by omega
        have e1 := byteAt_elem s 1 p1
        have l1 := byteAt_lt s.data.toList 1
        have p2 : 2 < s.size := by omega
        have e2 := byteAt_elem s 2 p2
        have l2 := byteAt_lt s.data.toList 2
        have p3 : 3 < s.size := by omega
        have e3 := byteAt_elem s 3 p3
        have l3 := byteAt_lt s.data.toList 3
        have hVV : (valN s.data.toList 4 : Int) = (byteAt s.data.toList 0 : Int) % 8 * 262144 + (byteAt s.data.toList 1 : Int) % 64 * 4096 + (byteAt s.data.toList 2 : Int) % 64 * 64 + (byteAt s.data.toList 3 : Int) % 64 := by
          show ((byteAt s.data.toList 0 % 8 * 262144 + byteAt s.data.toList 1 % 64 * 4096 + byteAt s.data.toList 2 % 64 * 64 + byteAt s.data.toList 3 % 64 : Nat) : Int) = _
          omega
        have cR := Rune_any (valN s.data.toList 4) (by omega) (by omega)
        by_cases hval : isRune (valN s.data.toList 4)
        · have cB := Bytes_any _ hval
          have hvR := valid_of_rune hval
          rw [hvR] at cR
          have hpar2 : Hid ((⟨(enc (valN s.data.toList 4)).toArray⟩ : ByteArray) = s.extract 0 4 ↔ fits s.data.toList 4) := ⟨fun h => hpar.out.1 ⟨hval, h⟩, fun h => (hpar.out.2 h).2⟩
          generalize (⟨(enc (valN s.data.toList 4)).toArray⟩ : ByteArray) = u at cB hpar2
          rw [hVV] at cR cB
          clear hvR hval hpar hV
          generalize byteAt s.data.toList 0 = B0 at *
          generalize byteAt s.data.toList 1 = B1 at *
          generalize byteAt s.data.toList 2 = B2 at *
          generalize byteAt s.data.toList 3 = B3 at *
          have HV : Hid ((valN s.data.toList 4 : Int) = (B0 : Int) % 8 * 262144 + (B1 : Int) % 64 * 4096 + (B2 : Int) % 64 * 64 + (B3 : Int) % 64) := hVV
          clear hVV
          by_cases hu : u = s.extract 0 4
          · have hr := hret.out (hpar2.out.1 hu)
            have h1 : Hid (R1 = (B0 : Int) % 8 * 262144 + (B1 : Int) % 64 * 4096 + (B2 : Int) % 64 * 64 + (B3 : Int) % 64) := by show _ = _; rw [HR1.out, hr]; exact HV.out
            have h2 : Hid (R2 = 4) := by show _ = _; rw [HR2.out, hr]; rfl
            subst hu
            clear hr hret hnext hpar2
            go_wp2; go_region; go_wp2
            go_region_with (first | (go_at_call 74; refine (cR _).mono ?_; rintro e wx ⟨rfl, rfl⟩) | (go_at_call 71; refine (cB _).mono ?_; rintro e w1 ⟨rfl, hb1⟩))
            all_goals
              go_wp2
              go_ret2
              exact ⟨by rw [h1.out, h2.out]; rfl, (hwr.drew.drew).trans (hb1.mono (by simpa using hwr.size))⟩
          · have hn' := hnext.out fun h => hu (hpar2.out.2 h)
            have HN : Hid _ := hn'
            have hue : (u.toList == (s.extract 0 4).toList) = false := beq_eq_false_iff_ne.2 fun h => hu (bytes_toList h)
            clear hn' hnext hret hpar2
            go_wp2; go_region; go_wp2
            go_region_with (first | (go_at_call 74; refine (cR _).mono ?_; rintro e wx ⟨rfl, rfl⟩) | (go_at_call 71; refine (cB _).mono ?_; rintro e w1 ⟨rfl, hb1⟩))
            all_goals
              go_wp2
              have hrel : ∃ k : Nat, 1 ≤ k ∧ k ≤ 5 ∧ Value.int .i64 5 = .int .i64 k ∧ (∀ j, 1 ≤ j → j < k → j ≤ s.data.toList.length → ¬ fits s.data.toList j) ∧ Below w.heap.size w w1 := ⟨5, by omega, by omega, rfl, HN.out, (hwr.drew.drew).trans (hb1.mono (by simpa using hwr.size))⟩
              exact ⟨hrel, by simp [intOf]⟩
        · have hn' := hnext.out fun h => hval h.1
          have HN : Hid _ := hn'
          rw [not_valid hval, hVV] at cR
          clear hn' hnext hret hpar hval hV hVV
          generalize byteAt s.data.toList 0 = B0 at *
          generalize byteAt s.data.toList 1 = B1 at *
          generalize byteAt s.data.toList 2 = B2 at *
          generalize byteAt s.data.toList 3 = B3 at *
          go_wp2; go_region; go_wp2
          go_quiet (first | (go_at_call 74; refine (cR _).mono ?_; rintro e wx ⟨rfl, rfl⟩; exact ⟨rfl, _, rfl⟩))
          go_wp2
          have hrel : ∃ k : Nat, 1 ≤ k ∧ k ≤ 5 ∧ Value.int .i64 5 = .int .i64 k ∧ (∀ j, 1 ≤ j → j < k → j ≤ s.data.toList.length → ¬ fits s.data.toList j) ∧ Below w.heap.size w (wr.drewN (1 + nq)) := ⟨5, by omega, by omega, rfl, HN.out, hwr.trans ⟨rfl, rfl, rfl, Nat.le_refl _, fun _ _ => rfl⟩⟩
          exact ⟨hrel, by simp [intOf]⟩
    · have hz : firstOf s.data.toList = (0, 0) := firstOf_none fun n h1 h2 h3 => hno n h1 (by rw [← hsz.out] at h3; omega) h3
      have h1 : Hid (R1 = 0) := by show _ = _; rw [HR1.out, hz]; rfl
      have h2 : Hid (R2 = 0) := by show _ = _; rw [HR2.out, hz]; rfl
      subst hn
      clear hno hz
      by_cases hk : k ≤ 4
      · have hks : ¬ k ≤ s.size := fun h => hin ⟨hk, h⟩
        clear hin
        go_wp2
        go_ret2
        exact ⟨by rw [h1.out, h2.out]; rfl, hwr⟩
      · clear hin
        go_wp2
        go_ret2
        exact ⟨by rw [h1.out, h2.out]; rfl, hwr⟩
end Go.Proofs.YtgmgkbbnciglhaaDoor

namespace Go.Proofs.YtgmgkbbnciglhaaDoor
open Go.RowKit
set_option linter.unusedVariables false

theorem extract_list (s : ByteArray) (k : Nat) : (s.extract k s.size).data.toList = s.data.toList.drop k := by
  rw [Lib.extract_data, List.take_of_length_le (by rw [List.length_drop, ← Lib.size_eq]; exact Nat.le_refl _)]

set_option maxRecDepth 100000 in
set_option maxHeartbeats 4000000 in
theorem refRunes_any (s : ByteArray) (hs : s.size < 100000000) (w : World) :
    Calls Tryd.prog 12 #[.string s] w fun e w' => Below w.heap.size w w' ∧
      (((scan s.data.toList).2 = true ∧ ∃ v, e = .returned (.tuple #[v, fault 0 (-1)]) ∧ isRow w w' 21 v (cellsOf21 (scan s.data.toList).1)) ∨
       ((scan s.data.toList).2 = false ∧ e = .returned (.tuple #[.slice none 0 0, fault 3 (place s.data.toList)]))) := by
  have hsz : Hid (s.size = s.data.toList.length) := Lib.size_eq s
  obtain ⟨i0, hi, hz0, hz1, hz2⟩ := info_parts info21
  unfold fault
  go_enter Tryd.func12, Tryd.ntmps12
  go_wp2
  go_loopw [4, 5] (fun b i wr => ∃ (k : Nat) (done : List (Nat × Nat)), k ≤ s.size ∧ i = .int .i64 k ∧ (scan s.data.toList).1 = done ++ (scan (s.data.toList.drop k)).1 ∧ (done.map (·.2)).sum = k ∧ (scan s.data.toList).2 = (scan (s.data.toList.drop k)).2 ∧ done.length ≤ k ∧
      wr.ownsRow (w.heap.size + 1) 21 1 b done.length (cellsOf21 done) ∧
      wr.cell? ⟨w.heap.size, 0, none⟩ = some (.int .i64 0) ∧ wr.cell? ⟨w.heap.size, 1, none⟩ = some (.int .i64 0) ∧ wr.frozen? ⟨w.heap.size, 0, none⟩ = false ∧ wr.frozen? ⟨w.heap.size, 1, none⟩ = false ∧ Below w.heap.size w wr) (fun _ i _ => s.size - (intOf i).toNat)
  case atStart => exact ⟨0, [], Nat.zero_le _, rfl, by rw [List.drop_zero]; rfl, rfl, by rw [List.drop_zero], Nat.le_refl _, World.ownsRow_nil _ _ _ _, by simp [go_sem], by simp [go_sem], by simp [go_sem], by simp [go_sem], (Below.refl _ _).alloc (Nat.le_refl _) _⟩
  case round =>
    obtain ⟨k, done, hk, rfl, hd1, hd2, hd3, hdl, hown, c0, c1, f0, f1, hwr⟩ := hrel
    have hbl : w.heap.size < wr.heap.size := World.block_lt_of_cell? wr _ c0
    by_cases hlt : k < s.size
    · have hne : s.data.toList.drop k ≠ [] := by
        intro e
        have := congrArg List.length e
        rw [List.length_drop, List.length_nil, ← Lib.size_eq] at this
        omega
      have cF := first_any (s.extract k s.size) (by rw [ByteArray.size_extract]; omega) wr
      rw [extract_list] at cF
      unfold firstOf at cF
      rw [if_neg hne] at cF
      have hge := dec_ge1 (s.data.toList.drop k)
      have hle := dec_le hne
      rw [List.length_drop, ← hsz.out] at hle
      have hdn : done.length < 100000000 := by omega
      by_cases hb : badB (dec (s.data.toList.drop k)) = true
      · rw [hb] at cF
        simp only [if_true] at cF
        have hs2 := scan_bad hne hb
        have hpl : Hid (place s.data.toList = k) := by
          show _ = _
          unfold place
          rw [hd1, hs2, List.append_nil, hd2]
        have hf : Hid ((scan s.data.toList).2 = false) := by show _ = _; rw [hd3, hs2]
        clear hd1 hd2 hd3 hdl hs2 hown hne hb hge hle
        go_wp2_with (first | (go_at_call 61; refine cF.mono ?_; rintro e w1 ⟨rfl, hb1⟩; have e0 := (hb1.cell (p := ⟨w.heap.size, 0, none⟩) hbl).trans c0; have e1 := (hb1.cell (p := ⟨w.heap.size, 1, none⟩) hbl).trans c1; have g0 := (hb1.frozen (p := ⟨w.heap.size, 0, none⟩) hbl).trans f0; have g1 := (hb1.frozen (p := ⟨w.heap.size, 1, none⟩) hbl).trans f1) | fail)
        refine bodyPost_ret (v := .tuple #[.slice none 0 0, .agg #[.int .i64 3, .int .i64 k]]) (by simp [results, Tryd.results12, go_sem, e0, e1]) rfl ?_
        refine ⟨((hwr.trans (hb1.mono hwr.size)).setCell (p := ⟨w.heap.size, 0, none⟩) (Nat.le_refl _) _).setCell (p := ⟨w.heap.size, 1, none⟩) (Nat.le_refl _) _, .inr ⟨hf.out, by rw [hpl.out]⟩⟩
      · have hb : badB (dec (s.data.toList.drop k)) = false := Bool.eq_false_iff.2 hb
        rw [hb] at cF
        simp only [Bool.false_eq_true, if_false] at cF
        have hs2 := scan_good hne hb
        rw [List.drop_drop] at hs2
        obtain ⟨R, hR⟩ : ∃ R, R = (dec (s.data.toList.drop k)).1 := ⟨_, rfl⟩
        obtain ⟨K, hK⟩ : ∃ K, K = (dec (s.data.toList.drop k)).2 := ⟨_, rfl⟩
        have hp : dec (s.data.toList.drop k) = (R, K) := by rw [hR, hK]
        rw [hp] at cF hs2 hge hle
        simp only [] at cF hs2 hge hle
        have hnext : Hid ((scan s.data.toList).1 = done ++ [(R, K)] ++ (scan (s.data.toList.drop (k + K))).1) := by
          show _ = _
          rw [hd1, hs2, List.append_assoc]; rfl
        have hnext2 : Hid (((done ++ [(R, K)]).map (·.2)).sum = k + K) := by
          show _ = _
          rw [List.map_append, List.sum_append, hd2]; rfl
        have hnext3 : Hid ((scan s.data.toList).2 = (scan (s.data.toList.drop (k + K))).2) := by show _ = _; rw [hd3, hs2]
        have hnext4 : Hid ((done ++ [(R, K)]).length ≤ k + K) := by
          show _ ≤ _
          rw [List.length_append]
          simp
          omega
        have hr0 : ((K : Int) == 0) = false := by
          rw [beq_eq_false_iff_ne]
          intro e
          omega
        have NX : Hid (∀ w0 w1 v' o, Below wr.heap.size wr w0 → w1.ownsRow (w.heap.size + 1) 21 1 v' (done.length + 1) (cellsOf21 done ++ [.int .i32 R]) → (w0.alloc o).grownBy w1 (u4).ownBlock →
            w1.ownsRow (w.heap.size + 1) 21 1 v' (done ++ [(R, K)]).length (cellsOf21 (done ++ [(R, K)])) ∧
            w1.cell? ⟨w.heap.size, 0, none⟩ = some (.int .i64 0) ∧ w1.cell? ⟨w.heap.size, 1, none⟩ = some (.int .i64 0) ∧ w1.frozen? ⟨w.heap.size, 0, none⟩ = false ∧ w1.frozen? ⟨w.heap.size, 1, none⟩ = false ∧ Below w.heap.size w w1) := by
          intro w0 w1 v' o hb0 h1 hg
          have hB : Below (w.heap.size + 1) wr w1 := ((hb0.mono hbl).alloc (Nat.le_trans hbl hb0.size) o).grown hg (by rw [World.size_alloc]; have := hb0.size; omega) fun k hk => (hown.lt k hk).1
          refine ⟨?_, (hB.cell (p := ⟨w.heap.size, 0, none⟩) (Nat.lt_succ_self _)).trans c0, (hB.cell (p := ⟨w.heap.size, 1, none⟩) (Nat.lt_succ_self _)).trans c1, (hB.frozen (p := ⟨w.heap.size, 0, none⟩) (Nat.lt_succ_self _)).trans f0, (hB.frozen (p := ⟨w.heap.size, 1, none⟩) (Nat.lt_succ_self _)).trans f1, hwr.trans (hB.mono (Nat.le_succ _))⟩
          have e : cellsOf21 (done ++ [(R, K)]) = cellsOf21 done ++ [.int .i32 R] := by simp [cellsOf21]
          rw [List.length_append, e]
          exact h1
        obtain ⟨pb, cb, rfl⟩ := own_slice hown
        clear hd1 hd2 hd3 hdl hs2 hp hR hK hne hb
        generalize cellsOf21 done = xs at hown NX
        go_wp2_with (first | (go_at_call 61; refine cF.mono ?_; rintro e w0 ⟨rfl, hb1⟩; have hown0 := own_below hown hb1; have hz9 := hb1.size) | (at_builtin; refine wpList_append_own _ rfl (.tmp 23) (.tmp 25) 22 rfl (w.heap.size + 1) 21 i0 (.int .i32 0) 1 4 Tryd.underlying22 hi hz0 hz1 hz2 rfl (by decide) _ _ _ rfl (hown0.alloc _) ⟨w0.heap.size, 0, none⟩ 1 1 [.int .i32 R] rfl rfl (cell_one_new _ _ _) (ints_oneCell .i32 [(R : Int)]) (by unfold maxLen; omega) (by omega) (by first | omega | (simp; omega)) ?_; intro v' w1 hown1 hg _) | fail)
        have hnx := NX.out w0 w1 v' _ hb1 hown1 hg
        obtain ⟨n0, n1, n2, n3, n4, n5⟩ := hnx
        clear hown1 hg hown hown0
        go_wp2
        go_roundw
        case rel => exact ⟨k + K, _, by omega, by go_num, hnext.out, hnext2.out, hnext3.out, hnext4.out, n0, n1, n2, n3, n4, n5⟩
        case measure => simp [intOf]; omega
    · have hend : s.data.toList.drop k = [] := List.drop_eq_nil_of_le (by rw [← Lib.size_eq]; omega)
      rw [hend, scan_nil] at hd1 hd3
      rw [List.append_nil] at hd1
      obtain ⟨pb, cb, rfl⟩ := own_slice hown
      have HO : Hid (wr.ownsRow (w.heap.size + 1) 21 1 (.slice pb done.length cb) done.length (cellsOf21 done)) := hown
      have hfin : Hid ((scan s.data.toList).1 = done) := hd1
      have hok : Hid ((scan s.data.toList).2 = true) := hd3
      clear hd1 hd3 hend hdl hd2 hown
      go_wp2_with (first | (go_at_call 62; refine (Bare_any _ _).mono ?_; rintro e w1 ⟨rfl, hb1⟩; have e0 := (hb1.cell (p := ⟨w.heap.size, 0, none⟩) hbl).trans c0; have e1 := (hb1.cell (p := ⟨w.heap.size, 1, none⟩) hbl).trans c1; have g0 := (hb1.frozen (p := ⟨w.heap.size, 0, none⟩) hbl).trans f0; have g1 := (hb1.frozen (p := ⟨w.heap.size, 1, none⟩) hbl).trans f1) | fail)
      refine bodyPost_ret (v := .tuple #[.slice pb done.length cb, .agg #[.int .i64 0, .int .i64 (-1)]]) (by simp [results, Tryd.results12, go_sem, e0, e1]) rfl ?_
      refine ⟨((hwr.trans (hb1.mono hwr.size)).setCell (p := ⟨w.heap.size, 0, none⟩) (Nat.le_refl _) _).setCell (p := ⟨w.heap.size, 1, none⟩) (Nat.le_refl _) _, .inl ⟨hok.out, _, rfl, ?_⟩⟩
      rw [hfin.out]
      have hlen : (cellsOf21 done).length = done.length := by simp [cellsOf21]
      refine ⟨pb, cb, by rw [hlen], ?_⟩
      rw [hlen]
      exact own_mono (ownsRow_setCell_below (a := ⟨w.heap.size, 1, none⟩) (ownsRow_setCell_below (a := ⟨w.heap.size, 0, none⟩) (own_below HO.out hb1) (Nat.lt_succ_self _) _) (Nat.lt_succ_self _) _) (Nat.le_succ _)
end Go.Proofs.YtgmgkbbnciglhaaDoor

namespace Go.Proofs.YtgmgkbbnciglhaaDoor
open Go.RowKit
set_option linter.unusedVariables false

set_option maxHeartbeats 1000000 in
theorem sameRunes_same (v1 v2 : Value) (zs : List Int) (w : World) (h1 : reads w .i32 v1 zs) (h2 : reads w .i32 v2 zs) (hl : zs.length < 1000000000) :
    Calls Tryd.prog 18 #[v1, v2] w fun e w' => e = .returned (.bool true) ∧ Below w.heap.size w w' := by
  obtain ⟨p1, c1, rfl, a1, a2, a3⟩ := h1
  obtain ⟨p2, c2, rfl, b1, b2, b3⟩ := h2
  obtain ⟨n, hn⟩ : ∃ n, n = zs.length := ⟨_, rfl⟩
  rw [← hn] at a1 a3 b1 b3 hl ⊢
  have HN : Hid (n = zs.length) := hn
  clear hn
  have A3 : Hid (zs ≠ [] → ∃ b o, p1 = some ⟨b, o, none⟩ ∧ b < w.heap.size ∧ ∀ i, i < n → w.cell? ⟨b, o + i, none⟩ = some (.int .i32 (zs.getD i 0))) := a3
  have B3 : Hid (zs ≠ [] → ∃ b o, p2 = some ⟨b, o, none⟩ ∧ b < w.heap.size ∧ ∀ i, i < n → w.cell? ⟨b, o + i, none⟩ = some (.int .i32 (zs.getD i 0))) := b3
  clear a3 b3
  go_enter Tryd.func18, Tryd.ntmps18
  go_wp2
  go_loopw [5] (fun i wr => ∃ k : Nat, k ≤ n ∧ i = .int .i64 k ∧ Below w.heap.size w wr) (fun i _ => n - (intOf i).toNat)
  case atStart => exact ⟨0, Nat.zero_le _, rfl, Below.refl _ _⟩
  case round =>
    obtain ⟨k, hk, rfl, hwr⟩ := hrel
    by_cases hlt : k < n
    · have hne : zs ≠ [] := by intro e; rw [HN.out, e] at hlt; exact absurd hlt (Nat.not_lt_zero _)
      obtain ⟨x1, o1, rfl, hx1, hc1⟩ := A3.out hne
      obtain ⟨x2, o2, rfl, hx2, hc2⟩ := B3.out hne
      have g1 := (hwr.cell (p := ⟨x1, o1 + k, none⟩) hx1).trans (hc1 k hlt)
      have g2 := (hwr.cell (p := ⟨x2, o2 + k, none⟩) hx2).trans (hc2 k hlt)
      generalize zs.getD k 0 = z at g1 g2
      clear hc1 hc2 A3 B3 hne
      go_wp2
      go_region
      all_goals
        go_wp2
        go_roundw
        case rel => exact ⟨k + 1, by omega, by go_num, hwr.drew⟩
        case measure => simp [intOf]; omega
    · clear A3 B3
      go_wp2
      go_ret
      exact ⟨rfl, hwr⟩

set_option maxHeartbeats 1000000 in
theorem sameHalves_same (v1 v2 : Value) (zs : List Int) (w : World) (h1 : reads w .u16 v1 zs) (h2 : reads w .u16 v2 zs) (hl : zs.length < 1000000000) :
    Calls Tryd.prog 19 #[v1, v2] w fun e w' => e = .returned (.bool true) ∧ Below w.heap.size w w' := by
  obtain ⟨p1, c1, rfl, a1, a2, a3⟩ := h1
  obtain ⟨p2, c2, rfl, b1, b2, b3⟩ := h2
  obtain ⟨n, hn⟩ : ∃ n, n = zs.length := ⟨_, rfl⟩
  rw [← hn] at a1 a3 b1 b3 hl ⊢
  have HN : Hid (n = zs.length) := hn
  clear hn
  have A3 : Hid (zs ≠ [] → ∃ b o, p1 = some ⟨b, o, none⟩ ∧ b < w.heap.size ∧ ∀ i, i < n → w.cell? ⟨b, o + i, none⟩ = some (.int .u16 (zs.getD i 0))) := a3
  have B3 : Hid (zs ≠ [] → ∃ b o, p2 = some ⟨b, o, none⟩ ∧ b < w.heap.size ∧ ∀ i, i < n → w.cell? ⟨b, o + i, none⟩ = some (.int .u16 (zs.getD i 0))) := b3
  clear a3 b3
  go_enter Tryd.func19, Tryd.ntmps19
  go_wp2
  go_loopw [5] (fun i wr => ∃ k : Nat, k ≤ n ∧ i = .int .i64 k ∧ Below w.heap.size w wr) (fun i _ => n - (intOf i).toNat)
  case atStart => exact ⟨0, Nat.zero_le _, rfl, Below.refl _ _⟩
  case round =>
    obtain ⟨k, hk, rfl, hwr⟩ := hrel
    by_cases hlt : k < n
    · have hne : zs ≠ [] := by intro e; rw [HN.out, e] at hlt; exact absurd hlt (Nat.not_lt_zero _)
      obtain ⟨x1, o1, rfl, hx1, hc1⟩ := A3.out hne
      obtain ⟨x2, o2, rfl, hx2, hc2⟩ := B3.out hne
      have g1 := (hwr.cell (p := ⟨x1, o1 + k, none⟩) hx1).trans (hc1 k hlt)
      have g2 := (hwr.cell (p := ⟨x2, o2 + k, none⟩) hx2).trans (hc2 k hlt)
      generalize zs.getD k 0 = z at g1 g2
      clear hc1 hc2 A3 B3 hne
      go_wp2
      go_region
      all_goals
        go_wp2
        go_roundw
        case rel => exact ⟨k + 1, by omega, by go_num, hwr.drew⟩
        case measure => simp [intOf]; omega
    · clear A3 B3
      go_wp2
      go_ret
      exact ⟨rfl, hwr⟩

end Go.Proofs.YtgmgkbbnciglhaaDoor

namespace Go.Proofs.YtgmgkbbnciglhaaDoor
open Go.RowKit
set_option linter.unusedVariables false

/-- The halves of runes, as cells. -/
def halRow (rs : List Nat) : List Value := rs.flatMap halCells
theorem halRow_snoc (rs : List Nat) (r : Nat) : halRow (rs ++ [r]) = halRow rs ++ halCells r := by simp [halRow]
theorem halRow_len (rs : List Nat) : (halRow rs).length ≤ 2 * rs.length := by
  induction rs with
  | nil => simp [halRow]
  | cons r rs ih =>
    have h : (halCells r).length ≤ 2 := by unfold halCells hal; split <;> simp
    have e : halRow (r :: rs) = halCells r ++ halRow rs := by simp [halRow]
    rw [e, List.length_append, List.length_cons]
    omega
theorem halRow_of59 (l : List (Nat × Nat)) : cellsOf59 l = halRow (l.map (·.1)) := by
  unfold cellsOf59 halRow
  rw [List.flatMap_map]

set_option maxRecDepth 100000 in
set_option maxHeartbeats 4000000 in
theorem refHalves_any (v : Value) (rs : List Nat) (w : World) (hz : ∀ r ∈ rs, isRune r) (hr : reads w .i32 v (toI rs)) (hl : rs.length < 100000000) :
    Calls Tryd.prog 20 #[v] w fun e w' => ∃ v, e = .returned v ∧ isRow w w' 59 v (halRow rs) ∧ Below w.heap.size w w' := by
  obtain ⟨p, c, rfl, r1, r2, r3⟩ := hr
  obtain ⟨n, hn⟩ : ∃ n, n = (toI rs).length := ⟨_, rfl⟩
  rw [← hn] at r1 r3 ⊢
  have HN : Hid (n = rs.length) := by show _ = _; rw [hn]; simp [toI]
  have HT : Hid (toI rs ≠ [] ↔ rs ≠ []) := by show _ ↔ _; simp [toI]
  have hln : n < 100000000 := by rw [HN.out]; exact hl
  clear hn hl
  have R3 : Hid (toI rs ≠ [] → ∃ b o, p = some ⟨b, o, none⟩ ∧ b < w.heap.size ∧ ∀ i, i < n → w.cell? ⟨b, o + i, none⟩ = some (.int .i32 ((toI rs).getD i 0))) := r3
  have HZ : Hid (∀ r ∈ rs, isRune r) := hz
  clear r3 hz
  obtain ⟨i0, hi, hz0, hz1, hz2⟩ := info_parts info59
  go_enter Tryd.func20, Tryd.ntmps20
  go_wp2
  go_loopw [3, 9] (fun b i wr => ∃ (k : Nat), k ≤ n ∧ i = .int .i64 k ∧ wr.ownsRow w.heap.size 59 1 b (halRow (rs.take k)).length (halRow (rs.take k)) ∧ Below w.heap.size w wr) (fun _ i _ => n - (intOf i).toNat)
  case atStart => exact ⟨0, Nat.zero_le _, rfl, World.ownsRow_nil _ _ _ _, Below.refl _ _⟩
  case round =>
    obtain ⟨k, hk, rfl, hown, hwr⟩ := hrel
    have hlen := halRow_len (rs.take k)
    rw [List.length_take] at hlen
    by_cases hlt : k < n
    · have hkr : k < rs.length := by rw [← HN.out]; exact hlt
      have hne : rs ≠ [] := by intro e; rw [e] at hkr; exact absurd hkr (Nat.not_lt_zero _)
      obtain ⟨b, o, rfl, hbw, hcell⟩ := R3.out (HT.out.2 hne)
      have hc := (hwr.cell (p := ⟨b, o + k, none⟩) hbw).trans (hcell k hlt)
      have hze : (toI rs).getD k 0 = (rs[k] : Int) := by
        rw [List.getD_eq_getElem?_getD, toI, List.getElem?_map, List.getElem?_eq_getElem hkr]; rfl
      rw [hze] at hc
      have hru := HZ.out rs[k] (List.getElem_mem _)
      have hts : rs.take (k + 1) = rs.take k ++ [rs[k]] := List.take_succ_eq_append_getElem hkr
      have hsn := halRow_snoc (rs.take k) rs[k]
      rw [← hts] at hsn
      generalize rs[k] = r at hc hru hsn
      unfold isRune at hru
      have hm : (halRow (rs.take k)).length < 300000000 := by omega
      by_cases hbig : r < 65536
      · have hh : halCells r = [.int .u16 r] := by simp [halCells, hal, hbig]
        rw [hh] at hsn
        have NX : Hid (∀ w1 v' o, w1.ownsRow w.heap.size 59 1 v' ((halRow (rs.take k)).length + 1) (halRow (rs.take k) ++ [.int .u16 r]) → (wr.alloc o).grownBy w1 (u3).ownBlock →
            w1.ownsRow w.heap.size 59 1 v' (halRow (rs.take (k + 1))).length (halRow (rs.take (k + 1))) ∧ Below w.heap.size w w1) := by
          intro w1 v' o h1 hg
          have hB : Below w.heap.size wr w1 := ((Below.refl _ wr).alloc hwr.size o).grown hg (by rw [World.size_alloc]; have := hwr.size; omega) fun k hk => (hown.lt k hk).1
          refine ⟨?_, hwr.trans hB⟩
          rw [hsn, List.length_append]
          exact h1
        obtain ⟨pb, cb, rfl⟩ := own_slice hown
        have q0 : (0 : Int) ≤ (r : Int) := by omega
        have q1 : (r : Int) < 65536 := by omega
        have hws := hwr.size
        clear hsn hts hze hh hcell hlen hru hbig
        generalize (r : Int) = z at hc q0 q1 NX
        generalize halRow (rs.take k) = xs at hown hm NX
        go_wp2_with (first | (at_builtin; refine wpList_append_own _ rfl (.tmp 30) (.tmp 33) 32 rfl w.heap.size 59 i0 (.int .u16 0) 1 2 Tryd.underlying32 hi hz0 hz1 hz2 rfl (by decide) _ _ _ rfl (hown.alloc _) ⟨wr.heap.size, 0, none⟩ 1 1 [.int .u16 z] rfl rfl (cell_one_new _ _ _) (ints_oneCell .u16 [z]) (by unfold maxLen; omega) (by omega) (by first | omega | (simp; omega)) ?_; intro v' w1 hown1 hg _) | fail)
        have hnx := NX.out w1 v' _ hown1 hg
        obtain ⟨n0, n1⟩ := hnx
        clear hown1 hg hown
        go_wp2
        go_roundw
        case rel => exact ⟨k + 1, by omega, by go_num, n0, n1⟩
        case measure => simp [intOf]; omega
      · have hh : halCells r = [.int .u16 (55296 + ((r : Int) - 65536) / 1024), .int .u16 (56320 + ((r : Int) - 65536) % 1024)] := by
          simp only [halCells, hal, hbig, if_false, List.map_cons, List.map_nil]
          rw [show ((55296 + (r - 65536) / 1024 : Nat) : Int) = 55296 + ((r : Int) - 65536) / 1024 by omega, show ((56320 + (r - 65536) % 1024 : Nat) : Int) = 56320 + ((r : Int) - 65536) % 1024 by omega]
        rw [hh] at hsn
        have NX : Hid (∀ w1 v' o, w1.ownsRow w.heap.size 59 1 v' ((halRow (rs.take k)).length + 2) (halRow (rs.take k) ++ [.int .u16 (55296 + ((r : Int) - 65536) / 1024), .int .u16 (56320 + ((r : Int) - 65536) % 1024)]) → (wr.alloc o).grownBy w1 (u3).ownBlock →
            w1.ownsRow w.heap.size 59 1 v' (halRow (rs.take (k + 1))).length (halRow (rs.take (k + 1))) ∧ Below w.heap.size w w1) := by
          intro w1 v' o h1 hg
          have hB : Below w.heap.size wr w1 := ((Below.refl _ wr).alloc hwr.size o).grown hg (by rw [World.size_alloc]; have := hwr.size; omega) fun k hk => (hown.lt k hk).1
          refine ⟨?_, hwr.trans hB⟩
          rw [hsn, List.length_append]
          exact h1
        obtain ⟨pb, cb, rfl⟩ := own_slice hown
        have q0 : ¬ (r : Int) < 65536 := by omega
        have q1 : (r : Int) ≤ 1114111 := by omega
        have q2 : (65536 : Int) ≤ (r : Int) := by omega
        have hws := hwr.size
        clear hsn hts hze hh hcell hlen hru hbig
        generalize (r : Int) = z at hc q0 q1 q2 NX
        generalize halRow (rs.take k) = xs at hown hm NX
        go_wp2_with (first | (at_builtin; refine wpList_append_own _ rfl (.tmp 17) (.tmp 28) 32 rfl w.heap.size 59 i0 (.int .u16 0) 1 2 Tryd.underlying32 hi hz0 hz1 hz2 rfl (by decide) _ _ _ rfl (hown.alloc _) ⟨wr.heap.size, 0, none⟩ 2 2 [.int .u16 (55296 + (z - 65536) / 1024), .int .u16 (56320 + (z - 65536) % 1024)] rfl rfl (cell_two_new _ _ _ _) (ints_oneCell .u16 [55296 + (z - 65536) / 1024, 56320 + (z - 65536) % 1024]) (by unfold maxLen; omega) (by omega) (by first | omega | (simp; omega)) ?_; intro v' w1 hown1 hg _) | fail)
        have hnx := NX.out w1 v' _ hown1 hg
        obtain ⟨n0, n1⟩ := hnx
        clear hown1 hg hown
        go_wp2
        go_roundw
        case rel => exact ⟨k + 1, by omega, by go_num, n0, n1⟩
        case measure => simp [intOf]; omega
    · have e : rs.take k = rs := List.take_of_length_le (by rw [← HN.out]; omega)
      rw [e] at hown
      obtain ⟨pb, cb, rfl⟩ := own_slice hown
      have HO : Hid (isRow w wr 59 (.slice pb (halRow rs).length cb) (halRow rs)) := ⟨pb, cb, rfl, hown⟩
      clear e hown R3 HZ hlen
      go_wp2
      go_ret
      exact ⟨_, rfl, HO.out, hwr⟩
end Go.Proofs.YtgmgkbbnciglhaaDoor

namespace Go.Proofs
open Go.Shelf
def Tryd.lays138_ren : Go.Shelf.Ren := ⟨fun | 138 => 69 | 195 => 113 | 218 => 114 | 143 => 115 | 219 => 142 | 217 => 150 | 225 => 151 | 224 => 152 | 267 => 153 | 266 => 160 | 314 => 161 | n => n, fun | 9 => 9 | 3 => 3 | 4 => 4 | 5 => 5 | 0 => 0 | 46 => 61 | 146 => 224 | 51 => 178 | n => n, fun | 1 => 2 | n => n⟩
theorem Tryd.lays138 : Go.Proofs.Lays.n138 Tryd.prog Tryd.lays138_ren := {
  mixed := by kernel_rfl
  f138 := Tryd.func69.trans (congrArg some (by kernel_rfl))
  f143 := Tryd.func115.trans (congrArg some (by kernel_rfl))
  f195 := Tryd.func113.trans (congrArg some (by kernel_rfl))
  f217 := Tryd.func150.trans (congrArg some (by kernel_rfl))
  f218 := Tryd.func114.trans (congrArg some (by kernel_rfl))
  f219 := Tryd.func142.trans (congrArg some (by kernel_rfl))
  f224 := Tryd.func152.trans (congrArg some (by kernel_rfl))
  f225 := Tryd.func151.trans (congrArg some (by kernel_rfl))
  f266 := Tryd.func160.trans (congrArg some (by kernel_rfl))
  f267 := Tryd.func153.trans (congrArg some (by kernel_rfl))
  f314 := Tryd.func161.trans (congrArg some (by kernel_rfl))
  t0 := Tryd.underlying0
  a0 := Tryd.isAgg0
  z0 := Tryd.sizeOf0
  v0 := Tryd.zeroValue0
  t3 := Tryd.underlying3
  a3 := Tryd.isAgg3
  z3 := Tryd.sizeOf3
  v3 := Tryd.zeroValue3
  t4 := Tryd.underlying4
  a4 := Tryd.isAgg4
  z4 := Tryd.sizeOf4
  v4 := Tryd.zeroValue4
  t5 := Tryd.underlying5
  a5 := Tryd.isAgg5
  z5 := Tryd.sizeOf5
  v5 := Tryd.zeroValue5
  t9 := Tryd.underlying9
  a9 := Tryd.isAgg9
  z9 := Tryd.sizeOf9
  v9 := Tryd.zeroValue9
  t46 := Tryd.underlying61
  a46 := Tryd.isAgg61
  z46 := Tryd.sizeOf61
  v46 := Tryd.zeroValue61
  t51 := Tryd.underlying178
  a51 := Tryd.isAgg178
  z51 := Tryd.sizeOf178
  v51 := Tryd.zeroValue178
  t146 := Tryd.underlying224
  a146 := Tryd.isAgg224
  z146 := Tryd.sizeOf224
  v146 := Tryd.zeroValue224
  g1 := by kernel_rfl }
open Go.RowKit Go.Lib in
theorem Tryd.strings_Count_one (s : ByteArray) (c : UInt8) (w : World) :
    Calls Tryd.prog 69 #[.string s, .string ⟨#[c]⟩] w fun e w' => e = .returned (.int .i64 (Lib.countByte s.data.toList c)) ∧ w' = w := Any.strings_Count_one Tryd.lays138 s c w
end Go.Proofs

namespace Go.Proofs.YtgmgkbbnciglhaaDoor
open Go.RowKit
set_option linter.unusedVariables false

theorem alloc_cell {W : World} {a : Addr} {v : Value} (h : W.cell? a = some v) (hs : a.spot = none) (o : Obj) : (W.alloc o).cell? a = some v :=
  ((Below.refl W.heap.size W).alloc (Nat.le_refl _) o).cell (p := a) (World.block_lt_of_cell? W _ h) |>.trans h
theorem alloc_frozen {W : World} {a : Addr} (hl : a.block < W.heap.size) (h : W.frozen? a = false) (o : Obj) : (W.alloc o).frozen? a = false :=
  ((Below.refl W.heap.size W).alloc (Nat.le_refl _) o).frozen (p := a) hl |>.trans h

/-- The two results' blocks hold noughts, and may be written. -/
def zeros (W : World) (B : Nat) : Prop :=
  (W.cell? ⟨B, 0, none⟩ = some (.int .i64 0) ∧ W.cell? ⟨B, 1, none⟩ = some (.int .i64 0) ∧ W.cell? ⟨B, 2, none⟩ = some (.int .i64 0) ∧ W.cell? ⟨B, 3, none⟩ = some (.int .i64 0)) ∧
  (W.frozen? ⟨B, 0, none⟩ = false ∧ W.frozen? ⟨B, 1, none⟩ = false ∧ W.frozen? ⟨B, 2, none⟩ = false ∧ W.frozen? ⟨B, 3, none⟩ = false) ∧
  (W.cell? ⟨B + 1, 0, none⟩ = some (.int .i64 0) ∧ W.cell? ⟨B + 1, 1, none⟩ = some (.int .i64 0)) ∧
  (W.frozen? ⟨B + 1, 0, none⟩ = false ∧ W.frozen? ⟨B + 1, 1, none⟩ = false)
theorem zeros_below {W W' : World} {B : Nat} (h : zeros W B) (hb : Below W.heap.size W W') : zeros W' B := by
  obtain ⟨⟨c0, c1, c2, c3⟩, ⟨d0, d1, d2, d3⟩, ⟨f0, f1⟩, ⟨g0, g1⟩⟩ := h
  have l0 : B < W.heap.size := World.block_lt_of_cell? W _ c0
  have l1 : B + 1 < W.heap.size := World.block_lt_of_cell? W _ f0
  have kc : ∀ i v, W.cell? ⟨B, i, none⟩ = some v → W'.cell? ⟨B, i, none⟩ = some v := fun i v h => (hb.cell (p := ⟨B, i, none⟩) l0).trans h
  have kd : ∀ i, W.frozen? ⟨B, i, none⟩ = false → W'.frozen? ⟨B, i, none⟩ = false := fun i h => (hb.frozen (p := ⟨B, i, none⟩) l0).trans h
  have kf : ∀ i v, W.cell? ⟨B + 1, i, none⟩ = some v → W'.cell? ⟨B + 1, i, none⟩ = some v := fun i v h => (hb.cell (p := ⟨B + 1, i, none⟩) l1).trans h
  have kg : ∀ i, W.frozen? ⟨B + 1, i, none⟩ = false → W'.frozen? ⟨B + 1, i, none⟩ = false := fun i h => (hb.frozen (p := ⟨B + 1, i, none⟩) l1).trans h
  exact ⟨⟨kc _ _ c0, kc _ _ c1, kc _ _ c2, kc _ _ c3⟩, ⟨kd _ d0, kd _ d1, kd _ d2, kd _ d3⟩, ⟨kf _ _ f0, kf _ _ f1⟩, ⟨kg _ g0, kg _ g1⟩⟩
theorem zeros_new (w : World) : zeros ((w.alloc (.cells #[.int .i64 0, .int .i64 0, .int .i64 0, .int .i64 0] 36)).alloc (.cells #[.int .i64 0, .int .i64 0] 25)) w.heap.size := by
  refine ⟨⟨?_, ?_, ?_, ?_⟩, ⟨?_, ?_, ?_, ?_⟩, ⟨?_, ?_⟩, ⟨?_, ?_⟩⟩ <;> simp [go_sem]
theorem below_two {w w1 : World} {o1 o2 : Obj} (hb : Below ((w.alloc o1).alloc o2).heap.size ((w.alloc o1).alloc o2) w1) : Below w.heap.size w w1 :=
  (((Below.refl _ w).alloc (Nat.le_refl _) _).alloc (by rw [World.size_alloc]; exact Nat.le_succ _) _).trans (hb.mono (by rw [World.size_alloc, World.size_alloc]; omega))
theorem size_two {w w1 : World} {o1 o2 : Obj} (hb : Below ((w.alloc o1).alloc o2).heap.size ((w.alloc o1).alloc o2) w1) : w.heap.size + 1 < w1.heap.size := by
  have := hb.size
  rw [World.size_alloc, World.size_alloc] at this
  omega
theorem below_six {w W : World} {v0 v1 v2 v3 v4 v5 : Value} (h : Below w.heap.size w W) :
    Below w.heap.size w ((((((W.setCell ⟨w.heap.size, 0, none⟩ v0).setCell ⟨w.heap.size, 1, none⟩ v1).setCell ⟨w.heap.size, 2, none⟩ v2).setCell ⟨w.heap.size, 3, none⟩ v3).setCell ⟨w.heap.size + 1, 0, none⟩ v4).setCell ⟨w.heap.size + 1, 1, none⟩ v5) :=
  (((((h.setCell (p := ⟨w.heap.size, 0, none⟩) (Nat.le_refl _) _).setCell (p := ⟨w.heap.size, 1, none⟩) (Nat.le_refl _) _).setCell (p := ⟨w.heap.size, 2, none⟩) (Nat.le_refl _) _).setCell (p := ⟨w.heap.size, 3, none⟩) (Nat.le_refl _) _).setCell (p := ⟨w.heap.size + 1, 0, none⟩) (Nat.le_succ _) _).setCell (p := ⟨w.heap.size + 1, 1, none⟩) (Nat.le_succ _) _

set_option maxRecDepth 100000 in
set_option maxHeartbeats 4000000 in
theorem refCount_bad (s : ByteArray) (hs : s.size < 100000000) (w : World) (hok : (scan s.data.toList).2 = false) :
    Calls Tryd.prog 16 #[.string s] w fun e w' => Below w.heap.size w w' ∧ e = .returned (.tuple #[cnt 0 0 0 0, fault 3 (place s.data.toList)]) := by
  have cR : ∀ w, Calls Tryd.prog 12 #[.string s] w fun e w' => e = .returned (.tuple #[.slice none 0 0, .agg #[.int .i64 3, .int .i64 (place s.data.toList)]]) ∧ Below w.heap.size w w' := fun w => by
    refine (refRunes_any s hs w).mono ?_
    rintro e w' ⟨hb, ⟨h, _⟩ | ⟨_, rfl⟩⟩
    · rw [hok] at h; cases h
    · exact ⟨rfl, hb⟩
  clear hok hs
  generalize ((place s.data.toList : Nat) : Int) = P at cR ⊢
  unfold cnt fault
  go_enter Tryd.func16, Tryd.ntmps16
  go_wp2_with (first | (go_at_call 12; refine (cR _).mono ?_; rintro e w1 ⟨rfl, hb1⟩; have k0 := zeros_below (zeros_below (zeros_new w) hb1) ((Below.refl _ w1).alloc (Nat.le_refl _) (.cells #[.int .i64 3, .int .i64 P] 25)); obtain ⟨⟨c0, c1, c2, c3⟩, ⟨d0, d1, d2, d3⟩, ⟨f0, f1⟩, ⟨g0, g1⟩⟩ := k0; have hlt := size_two hb1; have hn1 : ¬ w1.heap.size = w.heap.size := (by omega); have hn2 : ¬ w.heap.size = w1.heap.size := (by omega); have hn3 : ¬ w1.heap.size = w.heap.size + 1 := (by omega); have hn4 : ¬ w.heap.size + 1 = w1.heap.size := (by omega)) | fail)
  go_region
  all_goals go_wp2
  all_goals
    refine bodyPost_ret (v := .tuple #[.agg #[.int .i64 0, .int .i64 0, .int .i64 0, .int .i64 0], .agg #[.int .i64 3, .int .i64 P]]) (by simp [results, Tryd.results16, go_sem, c0, c1, c2, c3, f0, f1]) rfl ?_
    exact ⟨(below_six ((below_two hb1).alloc (Nat.le_of_lt (Nat.lt_trans (Nat.lt_succ_self _) hlt)) _)).drew, rfl⟩

theorem cells21_toI (rs : List Nat) : cellsOf21 (wide rs) = (toI rs).map (Value.int .i32) := by
  simp [cellsOf21, wide, toI, List.map_map, Function.comp_def]

set_option maxRecDepth 100000 in
set_option maxHeartbeats 4000000 in
theorem refCount_good (s : ByteArray) (hs : s.size < 100000000) (w : World) (hok : (scan s.data.toList).2 = true) :
    Calls Tryd.prog 16 #[.string s] w fun e w' => Below w.heap.size w w' ∧
      e = .returned (.tuple #[cnt s.size (halRow (runesOf s.data.toList)).length (runesOf s.data.toList).length (Lib.countByte s.data.toList 10), fault 0 (-1)]) := by
  have hru : ∀ r ∈ runesOf s.data.toList, isRune r := fun r h => runesOf_rune h
  have hrl : (runesOf s.data.toList).length < 100000000 := by
    have := scan_len s.data.toList
    rw [← Lib.size_eq] at this
    unfold runesOf
    rw [List.length_map]
    omega
  have cR : ∀ w, Calls Tryd.prog 12 #[.string s] w fun e w' => Below w.heap.size w w' ∧ ∃ p c, e = .returned (.tuple #[.slice p (runesOf s.data.toList).length c, .agg #[.int .i64 0, .int .i64 (-1)]]) ∧ reads w' .i32 (.slice p (runesOf s.data.toList).length c) (toI (runesOf s.data.toList)) := fun w => by
    refine (refRunes_any s hs w).mono ?_
    rintro e w' ⟨hb, ⟨_, v, rfl, p, c, rfl, hown⟩ | ⟨h, _⟩⟩
    · have e1 : cellsOf21 (scan s.data.toList).1 = (toI (runesOf s.data.toList)).map (Value.int .i32) := by rw [scan_wide, cells21_toI]
      have e2 : (cellsOf21 (scan s.data.toList).1).length = (toI (runesOf s.data.toList)).length := by rw [e1, List.length_map]
      have e3 : (toI (runesOf s.data.toList)).length = (runesOf s.data.toList).length := by simp [toI]
      rw [e2] at hown
      rw [e2, ← e3]
      exact ⟨hb, p, c, rfl, reads_own e1 hown⟩
    · rw [hok] at h; cases h
  have cC := fun w => Tryd.strings_Count_one s 10 w
  have hcb : Lib.countByte s.data.toList 10 < 100000000 := by
    have : Lib.countByte s.data.toList 10 ≤ s.data.toList.length := List.count_le_length
    rw [← Lib.size_eq] at this
    omega
  clear hok hs
  generalize Lib.countByte s.data.toList 10 = CB at cC hcb ⊢
  generalize runesOf s.data.toList = rs at *
  have HRU : Hid (∀ r ∈ rs, isRune r) := hru
  obtain ⟨n, hn⟩ : ∃ n, n = rs.length := ⟨_, rfl⟩
  have HRL : Hid (rs.length < 100000000) := hrl
  rw [← hn] at cR hrl ⊢
  have HN : Hid (n = rs.length) := hn
  clear hru hn
  unfold cnt fault
  go_enter Tryd.func16, Tryd.ntmps16
  go_wp2_with (first | (go_at_call 12; refine (cR _).mono ?_; rintro e w1 ⟨hb1, p, c, rfl, hrd⟩; have HRD : Hid (reads w1 .i32 (.slice p n c) (toI rs)) := hrd; clear hrd; have hBF : Below w1.heap.size w1 (w1.alloc (.cells #[.int .i64 0, .int .i64 (-1)] 25)) := (Below.refl _ w1).alloc (Nat.le_refl _) _; have k0 := zeros_below (zeros_below (zeros_new w) hb1) hBF; have KZ : Hid (zeros (w1.alloc (.cells #[.int .i64 0, .int .i64 (-1)] 25)) w.heap.size) := k0; obtain ⟨⟨c0, c1, c2, c3⟩, ⟨d0, d1, d2, d3⟩, ⟨f0, f1⟩, ⟨g0, g1⟩⟩ := k0; have hlt := size_two hb1; have hn1 : ¬ w1.heap.size = w.heap.size := (by omega); have hn2 : ¬ w.heap.size = w1.heap.size := (by omega); have hn3 : ¬ w1.heap.size = w.heap.size + 1 := (by omega); have hn4 : ¬ w.heap.size + 1 = w1.heap.size := (by omega)) | fail)
  go_region_with (first | (go_at_call 20; refine (refHalves_any _ rs _ HRU.out (reads_below HRD.out hBF.drew (Nat.le_refl _)) HRL.out).mono ?_; rintro e w2 ⟨v2, rfl, ⟨p2, c2', rfl, hig⟩, hb2⟩; clear hig; have k2 := zeros_below (W := (w1.alloc (.cells #[.int .i64 0, .int .i64 (-1)] 25)).drew) (zeros_below KZ.out (Below.refl _ _).drew) hb2; obtain ⟨⟨C0, C1, C2, C3⟩, ⟨D0, D1, D2, D3⟩, ⟨F0, F1⟩, ⟨G0, G1⟩⟩ := k2; have e0 : w2.cell? ⟨w1.heap.size, 0, none⟩ = some (.int .i64 0) := (hb2.cell (p := ⟨w1.heap.size, 0, none⟩) (by simp)).trans (by simp [go_sem]); have e1 : w2.cell? ⟨w1.heap.size, 1, none⟩ = some (.int .i64 (-1)) := (hb2.cell (p := ⟨w1.heap.size, 1, none⟩) (by simp)).trans (by simp [go_sem])) | (go_at_call 69; refine (cC _).mono ?_; rintro e wx ⟨rfl, hwx⟩; obtain rfl := hwx.symm))
  all_goals
    go_wp2
    refine bodyPost_ret (v := .tuple #[.agg #[.int .i64 s.size, .int .i64 (halRow rs).length, .int .i64 n, .int .i64 CB], .agg #[.int .i64 0, .int .i64 (-1)]]) (by simp [results, Tryd.results16, go_sem, C0, C1, C2, C3, F0, F1]) rfl ?_
    have hle : w.heap.size ≤ w1.heap.size := by omega
    have hBw : Below w.heap.size w w2 := ((below_two hb1).alloc hle _).drew.trans (hb2.mono (by simp; omega))
    exact ⟨below_six hBw, rfl⟩
end Go.Proofs.YtgmgkbbnciglhaaDoor

namespace Go.Proofs.YtgmgkbbnciglhaaDoor

theorem sum1_wide (rs : List Nat) : sum1 (wide rs) = ((encs rs).length : Int) := by
  induction rs with
  | nil => rfl
  | cons r rs ih =>
    have e : sum1 (wide (r :: rs)) = ((enc r).length : Int) + sum1 (wide rs) := by simp [sum1, wide]
    rw [e, ih, encs_cons, List.length_append]
    push_cast
    rfl
theorem sum2_wide (rs : List Nat) : sum2 (wide rs) = ((halRow rs).length : Int) := by
  induction rs with
  | nil => rfl
  | cons r rs ih =>
    have e : sum2 (wide (r :: rs)) = cH r + sum2 (wide rs) := by simp [sum2, wide]
    have e2 : halRow (r :: rs) = halCells r ++ halRow rs := by simp [halRow]
    have e3 : ((halCells r).length : Int) = cH r := by
      unfold halCells hal cH
      split <;> simp
    rw [e, ih, e2, List.length_append, ← e3]
    push_cast
    rfl
theorem enc_count {r : Nat} (hr : isRune r) : ((enc r).count 10 : Int) = cL r := by
  unfold isRune at hr
  have ne : ∀ n : Nat, n < 256 → n ≠ 10 → (n.toUInt8 == (10 : UInt8)) = false := by
    intro n h1 h2
    rw [beq_eq_false_iff_ne]
    intro e
    have := congrArg UInt8.toNat e
    rw [toU8 h1] at this
    exact h2 this
  unfold cL
  by_cases h1 : r ≤ 127
  · rw [enc1 h1]
    by_cases h : r = 10
    · subst h; rfl
    · rw [if_neg h, List.count_cons, ne r (by omega) h]; rfl
  rw [if_neg (by omega)]
  by_cases h2 : r ≤ 2047
  · rw [enc2 (by omega) h2, List.count_cons, List.count_cons, ne _ (by omega) (by omega), ne _ (by omega) (by omega)]; rfl
  by_cases h3 : r ≤ 65535
  · rw [enc3 (by omega), List.count_cons, List.count_cons, List.count_cons, ne _ (by omega) (by omega), ne _ (by omega) (by omega), ne _ (by omega) (by omega)]; rfl
  · rw [enc4 (by omega) (by omega), List.count_cons, List.count_cons, List.count_cons, List.count_cons, ne _ (by omega) (by omega), ne _ (by omega) (by omega), ne _ (by omega) (by omega), ne _ (by omega) (by omega)]; rfl
theorem sum4_wide {rs : List Nat} (h : ∀ r ∈ rs, isRune r) : sum4 (wide rs) = (Lib.countByte (encs rs) 10 : Int) := by
  unfold Lib.countByte
  induction rs with
  | nil => rfl
  | cons r rs ih =>
    have e : sum4 (wide (r :: rs)) = cL r + sum4 (wide rs) := by simp [sum4, wide]
    rw [e, ih fun x hx => h x (by simp [hx]), encs_cons, List.count_append, ← enc_count (h r (by simp))]
    push_cast
    rfl
/-- A sound text's counts, by either way. -/
theorem counts_same {l : List UInt8} (h : (scan l).2 = true) : sum1 (scan l).1 = (l.length : Int) ∧ sum2 (scan l).1 = ((halRow (runesOf l)).length : Int) ∧ ((scan l).1.length : Int) = ((runesOf l).length : Int) ∧ sum4 (scan l).1 = (Lib.countByte l 10 : Int) := by
  have e := encs_runesOf h
  have hr : ∀ r ∈ runesOf l, isRune r := fun r h => runesOf_rune h
  have h1 := sum1_wide (runesOf l)
  have h4 := sum4_wide hr
  rw [e] at h1 h4
  rw [scan_wide]
  exact ⟨h1, sum2_wide _, by simp [wide], h4⟩
end Go.Proofs.YtgmgkbbnciglhaaDoor

namespace Go.Proofs.YtgmgkbbnciglhaaDoor
open Go.RowKit
set_option linter.unusedVariables false

/-! ### What runes count -/
def C1 (rs : List Nat) : Int := sum1 (wide rs)
def C2 (rs : List Nat) : Int := sum2 (wide rs)
def C3 (rs : List Nat) : Int := rs.length
def C4 (rs : List Nat) : Int := sum4 (wide rs)
theorem wide_append (a b : List Nat) : wide (a ++ b) = wide a ++ wide b := by simp [wide]
theorem C1_append (a b : List Nat) : C1 (a ++ b) = C1 a + C1 b := by unfold C1 sum1; rw [wide_append, List.map_append, List.sum_append]
theorem C2_append (a b : List Nat) : C2 (a ++ b) = C2 a + C2 b := by unfold C2 sum2; rw [wide_append, List.map_append, List.sum_append]
theorem C3_append (a b : List Nat) : C3 (a ++ b) = C3 a + C3 b := by unfold C3; rw [List.length_append]; push_cast; rfl
theorem C4_append (a b : List Nat) : C4 (a ++ b) = C4 a + C4 b := by unfold C4 sum4; rw [wide_append, List.map_append, List.sum_append]
theorem C1_len (rs : List Nat) : C1 rs = (encs rs).length := sum1_wide rs
theorem C3_le (rs : List Nat) : 0 ≤ C3 rs ∧ C3 rs ≤ C1 rs := by
  have := encs_len rs
  rw [C1_len]; unfold C3; omega
theorem C4_le (rs : List Nat) : 0 ≤ C4 rs ∧ C4 rs ≤ C1 rs := by
  have h := sum4_le (wide rs)
  have h3 := C3_le rs
  have e : (wide rs).length = rs.length := by simp [wide]
  rw [e] at h
  unfold C4
  unfold C3 at h3
  omega
theorem C2_le (rs : List Nat) : 0 ≤ C2 rs ∧ C2 rs ≤ 2 * C1 rs := by
  have h := sum2_le (wide rs)
  have h3 := C3_le rs
  have e : (wide rs).length = rs.length := by simp [wide]
  rw [e] at h
  unfold C2
  unfold C3 at h3
  omega

/-- Runes' bytes. -/
def bytesOf (rs : List Nat) : ByteArray := ⟨(encs rs).toArray⟩
theorem bytesOf_size (rs : List Nat) : (bytesOf rs).size = (encs rs).length := by simp [bytesOf, ByteArray.size]
theorem bytesOf_list (rs : List Nat) : (bytesOf rs).data.toList = encs rs := rfl
theorem bytesOf_append (a b : List Nat) : bytesOf a ++ bytesOf b = bytesOf (a ++ b) := by
  apply ByteArray.ext
  rw [ByteArray.data_append]
  unfold bytesOf
  rw [encs_append]
  simp

/-- The chunks' tree. -/
inductive T where
  | nil
  | node (l : T) (rs : List Nat) (r : T)
def T.runes : T → List Nat
  | .nil => []
  | .node l rs r => l.runes ++ rs ++ r.runes
def T.height : T → Nat
  | .nil => 0
  | .node l _ r => 1 + max l.height r.height
def T.size : T → Nat
  | .nil => 0
  | .node l _ r => 1 + l.size + r.size

/-- The tree at p in memory. -/
def isTree (w : World) : Option Addr → T → Prop
  | p, .nil => p = none
  | p, .node l rs r => ∃ b pl pr, p = some ⟨b, 0, none⟩ ∧
      (w.cell? ⟨b, 0, none⟩ = some (.string (bytesOf rs)) ∧ w.cell? ⟨b, 1, none⟩ = some (.int .i64 (C1 rs)) ∧ w.cell? ⟨b, 2, none⟩ = some (.int .i64 (C2 rs)) ∧ w.cell? ⟨b, 3, none⟩ = some (.int .i64 (C3 rs)) ∧ w.cell? ⟨b, 4, none⟩ = some (.int .i64 (C4 rs))) ∧
      (w.cell? ⟨b, 5, none⟩ = some (.pointer pl) ∧ w.cell? ⟨b, 6, none⟩ = some (.pointer pr)) ∧
      (w.cell? ⟨b, 7, none⟩ = some (.int .i64 (C1 (T.node l rs r).runes)) ∧ w.cell? ⟨b, 8, none⟩ = some (.int .i64 (C2 (T.node l rs r).runes)) ∧ w.cell? ⟨b, 9, none⟩ = some (.int .i64 (C3 (T.node l rs r).runes)) ∧ w.cell? ⟨b, 10, none⟩ = some (.int .i64 (C4 (T.node l rs r).runes))) ∧
      (w.cell? ⟨b, 11, none⟩ = some (.int .i64 (T.node l rs r).height) ∧ w.cell? ⟨b, 12, none⟩ = some (.int .i64 (T.node l rs r).size)) ∧
      isTree w pl l ∧ isTree w pr r
theorem cell_on {W W' : World} (hb : Below W.heap.size W W') {b o : Nat} {v : Value} (h : W.cell? ⟨b, o, none⟩ = some v) : W'.cell? ⟨b, o, none⟩ = some v :=
  (hb.cell (p := ⟨b, o, none⟩) (World.block_lt_of_cell? W _ h)).trans h
theorem isTree_below {w w' : World} (hb : Below w.heap.size w w') : ∀ {t : T} {p : Option Addr}, isTree w p t → isTree w' p t
  | .nil, _, h => h
  | .node l rs r, _, ⟨b, pl, pr, e, ⟨a0, a1, a2, a3, a4⟩, ⟨a5, a6⟩, ⟨a7, a8, a9, a10⟩, ⟨a11, a12⟩, hl, hr⟩ =>
    ⟨b, pl, pr, e, ⟨cell_on hb a0, cell_on hb a1, cell_on hb a2, cell_on hb a3, cell_on hb a4⟩, ⟨cell_on hb a5, cell_on hb a6⟩, ⟨cell_on hb a7, cell_on hb a8, cell_on hb a9, cell_on hb a10⟩, ⟨cell_on hb a11, cell_on hb a12⟩, isTree_below hb hl, isTree_below hb hr⟩

set_option maxHeartbeats 1000000 in
theorem ncounts_any (p : Option Addr) (t : T) (w : World) (h : isTree w p t) :
    Calls Tryd.prog 83 #[.pointer p] w fun e w' => e = .returned (.agg #[.int .i64 (C1 t.runes), .int .i64 (C2 t.runes), .int .i64 (C3 t.runes), .int .i64 (C4 t.runes)]) ∧ Below w.heap.size w w' := by
  cases t with
  | nil =>
    obtain rfl : p = none := h
    have e1 : C1 T.nil.runes = 0 := rfl
    have e2 : C2 T.nil.runes = 0 := rfl
    have e3 : C3 T.nil.runes = 0 := rfl
    have e4 : C4 T.nil.runes = 0 := rfl
    rw [e1, e2, e3, e4]
    clear e1 e2 e3 e4
    go_enter Tryd.func83, Tryd.ntmps83
    go_wp2
    refine bodyPost_ret (v := .agg #[.int .i64 0, .int .i64 0, .int .i64 0, .int .i64 0]) (by simp [results, Tryd.results83, go_sem]) rfl ⟨rfl, ?_⟩
    exact (Below.refl _ _).alloc (Nat.le_refl _) _
  | node l rs r =>
    obtain ⟨b, pl, pr, rfl, _, _, ⟨a7, a8, a9, a10⟩, _, _, _⟩ := h
    have hlt := World.block_lt_of_cell? w _ a7
    have hne : ¬ b = w.heap.size := by show ¬ _; intro e; subst e; exact absurd hlt (Nat.lt_irrefl _)
    generalize (T.node l rs r).runes = R at *
    generalize C1 R = x1 at *
    generalize C2 R = x2 at *
    generalize C3 R = x3 at *
    generalize C4 R = x4 at *
    go_enter Tryd.func83, Tryd.ntmps83
    go_wp2
    refine bodyPost_ret (v := .agg #[.int .i64 x1, .int .i64 x2, .int .i64 x3, .int .i64 x4]) (by simp [results, Tryd.results83, go_sem]) rfl ⟨rfl, ?_⟩
    exact (Below.refl _ _).alloc (Nat.le_refl _) _

set_option maxHeartbeats 1000000 in
theorem nheight_any (p : Option Addr) (t : T) (w : World) (h : isTree w p t) :
    Calls Tryd.prog 147 #[.pointer p] w fun e w' => e = .returned (.int .i64 t.height) ∧ w' = w := by
  cases t with
  | nil =>
    obtain rfl : p = none := h
    go_enter Tryd.func147, Tryd.ntmps147
    go_wp2
    go_ret
    exact ⟨rfl, rfl⟩
  | node l rs r =>
    obtain ⟨b, pl, pr, rfl, _, _, _, ⟨a11, _⟩, _, _⟩ := h
    generalize ((T.node l rs r).height : Int) = x1 at *
    go_enter Tryd.func147, Tryd.ntmps147
    go_wp2
    go_ret
    exact ⟨rfl, rfl⟩
set_option maxHeartbeats 1000000 in
theorem nsize_any (p : Option Addr) (t : T) (w : World) (h : isTree w p t) :
    Calls Tryd.prog 158 #[.pointer p] w fun e w' => e = .returned (.int .i64 t.size) ∧ w' = w := by
  cases t with
  | nil =>
    obtain rfl : p = none := h
    go_enter Tryd.func158, Tryd.ntmps158
    go_wp2
    go_ret
    exact ⟨rfl, rfl⟩
  | node l rs r =>
    obtain ⟨b, pl, pr, rfl, _, _, _, ⟨_, a12⟩, _, _⟩ := h
    generalize ((T.node l rs r).size : Int) = x1 at *
    go_enter Tryd.func158, Tryd.ntmps158
    go_wp2
    go_ret
    exact ⟨rfl, rfl⟩
end Go.Proofs.YtgmgkbbnciglhaaDoor

namespace Go.Proofs.YtgmgkbbnciglhaaDoor
open Go.RowKit
set_option linter.unusedVariables false
attribute [local go_sem] yieldsUpon okUpon

/-- A chunk as a value. -/
def chunkV (rs : List Nat) : Value := .agg #[.string (bytesOf rs), .int .i64 (C1 rs), .int .i64 (C2 rs), .int .i64 (C3 rs), .int .i64 (C4 rs)]

set_option maxRecDepth 100000 in
set_option maxHeartbeats 400000 in
theorem link_any (pl pr : Option Addr) (l r : T) (rs : List Nat) (w : World) (hl : isTree w pl l) (hr : isTree w pr r) (hz : C1 l.runes + C1 rs + C1 r.runes ≤ 1000000000) (hs : l.size < 1000000000 ∧ r.size < 1000000000 ∧ l.height < 1000000000 ∧ r.height < 1000000000) :
    Calls Tryd.prog 145 #[.pointer pl, chunkV rs, .pointer pr] w fun e w' => ∃ p, e = .returned (.pointer p) ∧ isTree w' p (.node l rs r) ∧ Below w.heap.size w w' := by
  have l1 := C3_le l.runes
  have l2 := C2_le l.runes
  have l4 := C4_le l.runes
  have r1 := C3_le r.runes
  have r2 := C2_le r.runes
  have r4 := C4_le r.runes
  have m1 := C3_le rs
  have m2 := C2_le rs
  have m4 := C4_le rs
  have HL : Hid (isTree w pl l) := hl
  have HR : Hid (isTree w pr r) := hr
  have t1 : Hid (C1 (T.node l rs r).runes = C1 l.runes + C1 rs + C1 r.runes) := by show _ = _; simp only [T.runes, C1_append]
  have t2 : Hid (C2 (T.node l rs r).runes = C2 l.runes + C2 rs + C2 r.runes) := by show _ = _; simp only [T.runes, C2_append]
  have t3 : Hid (C3 (T.node l rs r).runes = C3 l.runes + C3 rs + C3 r.runes) := by show _ = _; simp only [T.runes, C3_append]
  have t4 : Hid (C4 (T.node l rs r).runes = C4 l.runes + C4 rs + C4 r.runes) := by show _ = _; simp only [T.runes, C4_append]
  have t5 : Hid (((T.node l rs r).height : Int) = 1 + max (l.height : Int) r.height) := by show _ = _; simp only [T.height]; omega
  have t6 : Hid (((T.node l rs r).size : Int) = 1 + l.size + r.size) := by show _ = _; simp only [T.size]; omega
  have cl := fun (wx : World) (hb : Below w.heap.size w wx) => ncounts_any pl l wx (isTree_below hb hl)
  have cr := fun (wx : World) (hb : Below w.heap.size w wx) => ncounts_any pr r wx (isTree_below hb hr)
  have hhl := fun (wx : World) (hb : Below w.heap.size w wx) => nheight_any pl l wx (isTree_below hb hl)
  have hhr := fun (wx : World) (hb : Below w.heap.size w wx) => nheight_any pr r wx (isTree_below hb hr)
  have sl := fun (wx : World) (hb : Below w.heap.size w wx) => nsize_any pl l wx (isTree_below hb hl)
  have sr := fun (wx : World) (hb : Below w.heap.size w wx) => nsize_any pr r wx (isTree_below hb hr)
  have p1 : ∀ wx, Calls Tryd.prog 23 #[.agg #[.int .i64 (C1 l.runes), .int .i64 (C2 l.runes), .int .i64 (C3 l.runes), .int .i64 (C4 l.runes)], .agg #[.int .i64 (C1 rs), .int .i64 (C2 rs), .int .i64 (C3 rs), .int .i64 (C4 rs)]] wx
      fun e w' => e = .returned (.agg #[.int .i64 (C1 l.runes + C1 rs), .int .i64 (C2 l.runes + C2 rs), .int .i64 (C3 l.runes + C3 rs), .int .i64 (C4 l.runes + C4 rs)]) ∧ Below wx.heap.size wx w' := fun wx => by
    have := plus_any (C1 l.runes) (C2 l.runes) (C3 l.runes) (C4 l.runes) (C1 rs) (C2 rs) (C3 rs) (C4 rs) wx
    rwa [wrap64_small (by omega) (by omega), wrap64_small (by omega) (by omega), wrap64_small (by omega) (by omega), wrap64_small (by omega) (by omega)] at this
  have p2 : ∀ wx, Calls Tryd.prog 23 #[.agg #[.int .i64 (C1 l.runes + C1 rs), .int .i64 (C2 l.runes + C2 rs), .int .i64 (C3 l.runes + C3 rs), .int .i64 (C4 l.runes + C4 rs)], .agg #[.int .i64 (C1 r.runes), .int .i64 (C2 r.runes), .int .i64 (C3 r.runes), .int .i64 (C4 r.runes)]] wx
      fun e w' => e = .returned (.agg #[.int .i64 (C1 l.runes + C1 rs + C1 r.runes), .int .i64 (C2 l.runes + C2 rs + C2 r.runes), .int .i64 (C3 l.runes + C3 rs + C3 r.runes), .int .i64 (C4 l.runes + C4 rs + C4 r.runes)]) ∧ Below wx.heap.size wx w' := fun wx => by
    have := plus_any (C1 l.runes + C1 rs) (C2 l.runes + C2 rs) (C3 l.runes + C3 rs) (C4 l.runes + C4 rs) (C1 r.runes) (C2 r.runes) (C3 r.runes) (C4 r.runes) wx
    rwa [wrap64_small (by omega) (by omega), wrap64_small (by omega) (by omega), wrap64_small (by omega) (by omega), wrap64_small (by omega) (by omega)] at this
  clear hl hr l1 l2 l4 r1 r2 r4 m1 m2 m4 hz
  obtain ⟨hs1, hs2, hs3, hs4⟩ := hs
  unfold chunkV
  generalize hB : bytesOf rs = B at *
  have HB : Hid (bytesOf rs = B) := hB
  clear hB
  generalize hx1 : C1 rs = x1 at *
  have Hx1 : Hid (C1 rs = x1) := hx1
  clear hx1
  generalize hx2 : C2 rs = x2 at *
  have Hx2 : Hid (C2 rs = x2) := hx2
  clear hx2
  generalize hx3 : C3 rs = x3 at *
  have Hx3 : Hid (C3 rs = x3) := hx3
  clear hx3
  generalize hx4 : C4 rs = x4 at *
  have Hx4 : Hid (C4 rs = x4) := hx4
  clear hx4
  generalize ha1 : C1 l.runes = a1 at *
  clear ha1
  generalize ha2 : C2 l.runes = a2 at *
  clear ha2
  generalize ha3 : C3 l.runes = a3 at *
  clear ha3
  generalize ha4 : C4 l.runes = a4 at *
  clear ha4
  generalize hb1 : C1 r.runes = b1 at *
  clear hb1
  generalize hb2 : C2 r.runes = b2 at *
  clear hb2
  generalize hb3 : C3 r.runes = b3 at *
  clear hb3
  generalize hb4 : C4 r.runes = b4 at *
  clear hb4
  generalize hk1 : (l.height : Int) = k1 at *
  generalize hk2 : (r.height : Int) = k2 at *
  generalize hk3 : (l.size : Int) = k3 at *
  generalize hk4 : (r.size : Int) = k4 at *
  have z1 : 0 ≤ k1 ∧ k1 < 1000000000 := by omega
  have z2 : 0 ≤ k2 ∧ k2 < 1000000000 := by omega
  have z3 : 0 ≤ k3 ∧ k3 < 1000000000 := by omega
  have z4 : 0 ≤ k4 ∧ k4 < 1000000000 := by omega
  clear hk1 hk2 hk3 hk4 hs1 hs2 hs3 hs4
  go_enter Tryd.func145, Tryd.ntmps145
  go_wp2
  refine wp_region_rel 26 26 (by kernel_rfl) rfl ?_
  intro w1 hb1
  have hb0 : Below w.heap.size w (w.alloc (.cells #[.string B, .int .i64 x1, .int .i64 x2, .int .i64 x3, .int .i64 x4] 181)) := (Below.refl _ w).alloc (Nat.le_refl _) _
  have hbw : Below w.heap.size w w1 := hb0.trans (hb1.mono hb0.size)
  obtain ⟨G, hG⟩ := exists_growth w1
  have g0 : ∀ x, (G x).cell? ⟨w.heap.size, 0, none⟩ = some (.string B) := hG.cell (cell_on hb1 (by simp [go_sem]))
  have g1 : ∀ x, (G x).cell? ⟨w.heap.size, 1, none⟩ = some (.int .i64 x1) := hG.cell (cell_on hb1 (by simp [go_sem]))
  have g2 : ∀ x, (G x).cell? ⟨w.heap.size, 2, none⟩ = some (.int .i64 x2) := hG.cell (cell_on hb1 (by simp [go_sem]))
  have g3 : ∀ x, (G x).cell? ⟨w.heap.size, 3, none⟩ = some (.int .i64 x3) := hG.cell (cell_on hb1 (by simp [go_sem]))
  have g4 : ∀ x, (G x).cell? ⟨w.heap.size, 4, none⟩ = some (.int .i64 x4) := hG.cell (cell_on hb1 (by simp [go_sem]))
  have wb : ∀ x, Below w.heap.size w (G x) := fun x => hbw.trans ((hG.below x).mono hbw.size)
  have cl' := fun x => cl (G x) (wb x)
  have cr' := fun x => cr (G x) (wb x)
  have hl' := fun x => (hhl (G x) (wb x)).mono (R' := fun e w' => e = .returned (.int .i64 k1) ∧ Below (G x).heap.size (G x) w') (by rintro e w' ⟨rfl, rfl⟩; exact ⟨rfl, Below.refl _ _⟩)
  have hr' := fun x => (hhr (G x) (wb x)).mono (R' := fun e w' => e = .returned (.int .i64 k2) ∧ Below (G x).heap.size (G x) w') (by rintro e w' ⟨rfl, rfl⟩; exact ⟨rfl, Below.refl _ _⟩)
  have sl' := fun x => (sl (G x) (wb x)).mono (R' := fun e w' => e = .returned (.int .i64 k3) ∧ Below (G x).heap.size (G x) w') (by rintro e w' ⟨rfl, rfl⟩; exact ⟨rfl, Below.refl _ _⟩)
  have sr' := fun x => (sr (G x) (wb x)).mono (R' := fun e w' => e = .returned (.int .i64 k4) ∧ Below (G x).heap.size (G x) w') (by rintro e w' ⟨rfl, rfl⟩; exact ⟨rfl, Below.refl _ _⟩)
  clear cl cr hhl hhr sl sr wb hb0
  (refine anyG_step hG (i := 0) rfl (by kernel_rfl) (by kernel_rfl) (by kernel_rfl) (fun K hK => ?_); go_simp; refine hK _ ?_; clear hK K)
  (refine anyG_step hG (i := 1) rfl (by kernel_rfl) (by kernel_rfl) (by kernel_rfl) (fun K hK => ?_); go_simp; refine hK _ ?_; clear hK K)
  (refine anyG_step hG (i := 2) rfl (by kernel_rfl) (by kernel_rfl) (by kernel_rfl) (fun K hK => ?_); go_simp; refine hK _ ?_; clear hK K)
  (refine anyG_step hG (i := 3) rfl (by kernel_rfl) (by kernel_rfl) (by kernel_rfl) (fun K hK => ?_); go_simp; refine hK _ ?_; clear hK K)
  (refine anyG_step hG (i := 4) rfl (by kernel_rfl) (by kernel_rfl) (by kernel_rfl) (fun K hK => ?_); go_simp; apply Exists.intro; refine ⟨fun _ => ?_, hK _ ?_⟩; exact cl' _; clear hK K)
  (refine anyG_step hG (i := 5) rfl (by kernel_rfl) (by kernel_rfl) (by kernel_rfl) (fun K hK => ?_); go_simp; refine hK _ ?_; clear hK K)
  (refine anyG_step hG (i := 6) rfl (by kernel_rfl) (by kernel_rfl) (by kernel_rfl) (fun K hK => ?_); go_simp; refine hK _ ?_; clear hK K)
  (refine anyG_step hG (i := 7) rfl (by kernel_rfl) (by kernel_rfl) (by kernel_rfl) (fun K hK => ?_); go_simp; apply Exists.intro; refine ⟨fun _ => ?_, hK _ ?_⟩; exact p1 _; clear hK K)
  (refine anyG_step hG (i := 8) rfl (by kernel_rfl) (by kernel_rfl) (by kernel_rfl) (fun K hK => ?_); go_simp; refine hK _ ?_; clear hK K)
  (refine anyG_step hG (i := 9) rfl (by kernel_rfl) (by kernel_rfl) (by kernel_rfl) (fun K hK => ?_); go_simp; apply Exists.intro; refine ⟨fun _ => ?_, hK _ ?_⟩; exact cr' _; clear hK K)
  (refine anyG_step hG (i := 10) rfl (by kernel_rfl) (by kernel_rfl) (by kernel_rfl) (fun K hK => ?_); go_simp; apply Exists.intro; refine ⟨fun _ => ?_, hK _ ?_⟩; exact p2 _; clear hK K)
  (refine anyG_step hG (i := 11) rfl (by kernel_rfl) (by kernel_rfl) (by kernel_rfl) (fun K hK => ?_); go_simp; refine hK _ ?_; clear hK K)
  (refine anyG_step hG (i := 12) rfl (by kernel_rfl) (by kernel_rfl) (by kernel_rfl) (fun K hK => ?_); go_simp; apply Exists.intro; refine ⟨fun _ => ?_, hK _ ?_⟩; exact hl' _; clear hK K)
  (refine anyG_step hG (i := 13) rfl (by kernel_rfl) (by kernel_rfl) (by kernel_rfl) (fun K hK => ?_); go_simp; refine hK _ ?_; clear hK K)
  (refine anyG_step hG (i := 14) rfl (by kernel_rfl) (by kernel_rfl) (by kernel_rfl) (fun K hK => ?_); go_simp; apply Exists.intro; refine ⟨fun _ => ?_, hK _ ?_⟩; exact hr' _; clear hK K)
  (refine anyG_step hG (i := 15) rfl (by kernel_rfl) (by kernel_rfl) (by kernel_rfl) (fun K hK => ?_); go_simp; refine hK _ ?_; clear hK K)
  (refine anyG_step hG (i := 16) rfl (by kernel_rfl) (by kernel_rfl) (by kernel_rfl) (fun K hK => ?_); go_simp; refine hK _ ?_; clear hK K)
  (refine anyG_step hG (i := 17) rfl (by kernel_rfl) (by kernel_rfl) (by kernel_rfl) (fun K hK => ?_); go_simp; refine hK _ ?_; clear hK K)
  (refine anyG_step hG (i := 18) rfl (by kernel_rfl) (by kernel_rfl) (by kernel_rfl) (fun K hK => ?_); go_simp; apply Exists.intro; refine ⟨fun _ => ?_, hK _ ?_⟩; exact sl' _; clear hK K)
  (refine anyG_step hG (i := 19) rfl (by kernel_rfl) (by kernel_rfl) (by kernel_rfl) (fun K hK => ?_); go_simp; refine hK _ ?_; clear hK K)
  (refine anyG_step hG (i := 20) rfl (by kernel_rfl) (by kernel_rfl) (by kernel_rfl) (fun K hK => ?_); go_simp; refine hK _ ?_; clear hK K)
  (refine anyG_step hG (i := 21) rfl (by kernel_rfl) (by kernel_rfl) (by kernel_rfl) (fun K hK => ?_); go_simp; apply Exists.intro; refine ⟨fun _ => ?_, hK _ ?_⟩; exact sr' _; clear hK K)
  (refine anyG_step hG (i := 22) rfl (by kernel_rfl) (by kernel_rfl) (by kernel_rfl) (fun K hK => ?_); go_simp; refine hK _ ?_; clear hK K)
  (refine anyG_step hG (i := 23) rfl (by kernel_rfl) (by kernel_rfl) (by kernel_rfl) (fun K hK => ?_); go_simp; refine hK _ ?_; clear hK K)
  clear cl' cr' hl' hr' sl' sr' p1 p2 g0 g1 g2 g3 g4
  have e5 : IntKind.i64.wrap (1 + max k1 k2) = 1 + max k1 k2 := IntWalk.i64_in _ (by omega)
  have e6 : IntKind.i64.wrap (1 + k3) = 1 + k3 := IntWalk.i64_in _ (by omega)
  have e7 : IntKind.i64.wrap (1 + k3 + k4) = 1 + k3 + k4 := IntWalk.i64_in _ (by omega)
  rw [e5, e6, e7]
  refine anyG_one (i := 24) rfl (by kernel_rfl) ?_
  intro w2 hb2 K hK
  go_simp
  refine hK _ _ ((Below.refl _ w2).alloc (Nat.le_refl _) _) ?_
  clear hK K
  refine anyG_one (i := 25) rfl (by kernel_rfl) ?_
  intro w3 hb3 K hK
  go_simp
  refine hK _ _ (Below.refl _ w3) ?_
  clear hK K
  refine anyG_end (by kernel_rfl) ?_
  intro w4 hb4
  have hb23 : Below w2.heap.size w2 _ := (Below.refl _ w2).alloc (Nat.le_refl _) (.cells #[.string B, .int .i64 x1, .int .i64 x2, .int .i64 x3, .int .i64 x4, .pointer pl, .pointer pr, .int .i64 (a1 + x1 + b1), .int .i64 (a2 + x2 + b2), .int .i64 (a3 + x3 + b3), .int .i64 (a4 + x4 + b4), .int .i64 (1 + max k1 k2), .int .i64 (1 + k3 + k4)] 189)
  have hb34 := hb3.trans (hb4.mono hb3.size)
  have hbw4 : Below w.heap.size w w4 := hbw.trans ((hb2.trans ((hb23.trans (hb34.mono hb23.size)).mono hb2.size)).mono hbw.size)
  have hcell : ∀ o v, (w2.alloc (.cells #[.string B, .int .i64 x1, .int .i64 x2, .int .i64 x3, .int .i64 x4, .pointer pl, .pointer pr, .int .i64 (a1 + x1 + b1), .int .i64 (a2 + x2 + b2), .int .i64 (a3 + x3 + b3), .int .i64 (a4 + x4 + b4), .int .i64 (1 + max k1 k2), .int .i64 (1 + k3 + k4)] 189)).cell? ⟨w2.heap.size, o, none⟩ = some v → w4.cell? ⟨w2.heap.size, o, none⟩ = some v := fun o v h => cell_on hb34 h
  have hT : isTree w4 (some ⟨w2.heap.size, 0, none⟩) (.node l rs r) := by
    refine ⟨w2.heap.size, pl, pr, rfl, ⟨hcell _ _ ?_, hcell _ _ ?_, hcell _ _ ?_, hcell _ _ ?_, hcell _ _ ?_⟩, ⟨hcell _ _ ?_, hcell _ _ ?_⟩, ⟨hcell _ _ ?_, hcell _ _ ?_, hcell _ _ ?_, hcell _ _ ?_⟩, ⟨hcell _ _ ?_, hcell _ _ ?_⟩, isTree_below hbw4 HL.out, isTree_below hbw4 HR.out⟩
    · simp [go_sem, HB.out]
    · simp [go_sem, Hx1.out]
    · simp [go_sem, Hx2.out]
    · simp [go_sem, Hx3.out]
    · simp [go_sem, Hx4.out]
    · simp [go_sem]
    · simp [go_sem]
    · simp [go_sem, t1.out]
    · simp [go_sem, t2.out]
    · simp [go_sem, t3.out]
    · simp [go_sem, t4.out]
    · simp [go_sem, t5.out]
    · simp [go_sem, t6.out]
  clear hcell hb2 hb23 hb34 hb3 hb4 t1 t2 t3 t4 t5 t6
  have HT : Hid _ := hT
  clear hT
  go_wp2
  go_ret
  exact ⟨_, rfl, HT.out, hbw4⟩
end Go.Proofs.YtgmgkbbnciglhaaDoor

namespace Go.Proofs.YtgmgkbbnciglhaaDoor

def T.chunks : T → List (List Nat)
  | .nil => []
  | .node l rs r => l.chunks ++ [rs] ++ r.chunks
theorem runes_chunks : ∀ t : T, t.runes = t.chunks.flatten
  | .nil => rfl
  | .node l rs r => by simp [T.runes, T.chunks, runes_chunks l, runes_chunks r]
theorem size_chunks : ∀ t : T, t.size = t.chunks.length
  | .nil => rfl
  | .node l rs r => by simp [T.size, T.chunks, size_chunks l, size_chunks r]; omega
theorem height_size : ∀ t : T, t.height ≤ t.size
  | .nil => Nat.le_refl _
  | .node l rs r => by have := height_size l; have := height_size r; simp only [T.height, T.size]; omega
def T.bal : T → Prop
  | .nil => True
  | .node l _ r => l.bal ∧ r.bal ∧ l.height ≤ r.height + 1 ∧ r.height ≤ l.height + 1

/-- A tree that is not too great. -/
def big (t : T) : Prop := C1 t.runes ≤ 1000000000 ∧ t.size ≤ 100000000
theorem C1_pos (rs : List Nat) : 0 ≤ C1 rs := by rw [C1_len]; omega
theorem big_node {l r : T} {c : List Nat} (h : big (.node l c r)) : big l ∧ big r ∧ C1 l.runes + C1 c + C1 r.runes ≤ 1000000000 ∧ (l.size < 1000000000 ∧ r.size < 1000000000 ∧ l.height < 1000000000 ∧ r.height < 1000000000) := by
  obtain ⟨h1, h2⟩ := h
  simp only [T.runes, C1_append, T.size] at h1 h2
  have a1 := C1_pos l.runes
  have a2 := C1_pos c
  have a3 := C1_pos r.runes
  have b1 := height_size l
  have b2 := height_size r
  exact ⟨⟨by omega, by omega⟩, ⟨by omega, by omega⟩, h1, by omega, by omega, by omega, by omega⟩
theorem big_same {t t' : T} (h : big t) (e : t'.chunks = t.chunks) : big t' := by
  unfold big at *
  rw [runes_chunks, e, ← runes_chunks, size_chunks, e, ← size_chunks]
  exact h

/-- What 'turn' makes of two trees with a chunk between. -/
def turnT (l : T) (c : List Nat) (r : T) : T :=
  if l.height = r.height + 2 then
    match l with
    | .node ll lc (.node a b d) => if ll.height < (T.node a b d).height then .node (.node ll lc a) b (.node d c r) else .node ll lc (.node (.node a b d) c r)
    | .node ll lc .nil => .node ll lc (.node .nil c r)
    | .nil => .node .nil c r
  else if r.height = l.height + 2 then
    match r with
    | .node (.node a b d) rc rr => if rr.height < (T.node a b d).height then .node (.node l c a) b (.node d rc rr) else .node (.node l c (.node a b d)) rc rr
    | .node .nil rc rr => .node (.node l c .nil) rc rr
    | .nil => .node l c .nil
  else .node l c r
theorem turnT_chunks (l : T) (c : List Nat) (r : T) : (turnT l c r).chunks = l.chunks ++ [c] ++ r.chunks := by
  unfold turnT
  split
  · split
    · split <;> simp [T.chunks]
    · simp [T.chunks]
    · simp [T.chunks]
  · split
    · split
      · split <;> simp [T.chunks]
      · simp [T.chunks]
      · simp [T.chunks]
    · simp [T.chunks]
theorem turnT_bal {l r : T} (c : List Nat) (hl : l.bal) (hr : r.bal) (h1 : l.height ≤ r.height + 2) (h2 : r.height ≤ l.height + 2) :
    (turnT l c r).bal ∧ (l.height ≤ r.height + 1 → r.height ≤ l.height + 1 → (turnT l c r).height = 1 + max l.height r.height) ∧ max l.height r.height ≤ (turnT l c r).height ∧ (turnT l c r).height ≤ 1 + max l.height r.height := by
  unfold turnT
  split
  · rename_i h
    match l, hl, h1, h2, h with
    | .nil, hl, h1, h2, h => simp [T.height] at h
    | .node ll lc .nil, hl, h1, h2, h =>
      simp only [T.bal, T.height] at *
      obtain ⟨hll, _, h5, h6⟩ := hl
      exact ⟨⟨hll, ⟨trivial, hr, by omega, by omega⟩, by omega, by omega⟩, fun _ _ => by omega, by omega, by omega⟩
    | .node ll lc (.node a b d), hl, h1, h2, h =>
      simp only [T.bal, T.height] at *
      obtain ⟨hll, ⟨ha, hd, h3, h4⟩, h5, h6⟩ := hl
      by_cases hc : ll.height < 1 + max a.height d.height
      · simp only [hc, if_true, T.bal, T.height]
        exact ⟨⟨⟨hll, ha, by omega, by omega⟩, ⟨hd, hr, by omega, by omega⟩, by omega, by omega⟩, fun _ _ => by omega, by omega, by omega⟩
      · simp only [hc, if_false, T.bal, T.height]
        exact ⟨⟨hll, ⟨⟨ha, hd, h3, h4⟩, hr, by omega, by omega⟩, by omega, by omega⟩, fun _ _ => by omega, by omega, by omega⟩
  · rename_i h
    split
    · rename_i h'
      match r, hr, h1, h2, h, h' with
      | .nil, hr, h1, h2, h, h' => simp [T.height] at h'
      | .node .nil rc rr, hr, h1, h2, h, h' =>
        simp only [T.bal, T.height] at *
        obtain ⟨_, hrr, h5, h6⟩ := hr
        exact ⟨⟨⟨hl, trivial, by omega, by omega⟩, hrr, by omega, by omega⟩, fun _ _ => by omega, by omega, by omega⟩
      | .node (.node a b d) rc rr, hr, h1, h2, h, h' =>
        simp only [T.bal, T.height] at *
        obtain ⟨⟨ha, hd, h3, h4⟩, hrr, h5, h6⟩ := hr
        by_cases hc : rr.height < 1 + max a.height d.height
        · simp only [hc, if_true, T.bal, T.height]
          exact ⟨⟨⟨hl, ha, by omega, by omega⟩, ⟨hd, hrr, by omega, by omega⟩, by omega, by omega⟩, fun _ _ => by omega, by omega, by omega⟩
        · simp only [hc, if_false, T.bal, T.height]
          exact ⟨⟨⟨hl, ⟨ha, hd, h3, h4⟩, by omega, by omega⟩, hrr, by omega, by omega⟩, fun _ _ => by omega, by omega, by omega⟩
    · rename_i h'
      exact ⟨⟨hl, hr, by omega, by omega⟩, fun _ _ => rfl, by show _ ≤ 1 + max l.height r.height; omega, Nat.le_refl _⟩
end Go.Proofs.YtgmgkbbnciglhaaDoor

namespace Go.Proofs.YtgmgkbbnciglhaaDoor
open Go.RowKit
set_option linter.unusedVariables false
attribute [local go_sem] yieldsUpon okUpon

theorem link_fits {pl pr : Option Addr} {l r : T} {c : List Nat} {w : World} (h : big (.node l c r)) (hl : isTree w pl l) (hr : isTree w pr r) :
    Calls Tryd.prog 145 #[.pointer pl, chunkV c, .pointer pr] w fun e w' => ∃ p, e = .returned (.pointer p) ∧ isTree w' p (.node l c r) ∧ Below w.heap.size w w' :=
  link_any pl pr l r c w hl hr (big_node h).2.2.1 (big_node h).2.2.2

set_option maxRecDepth 100000 in
set_option maxHeartbeats 2000000 in
theorem turn_E (pl pr : Option Addr) (l r : T) (c : List Nat) (w : World) (hl : isTree w pl l) (hr : isTree w pr r) (hz : big (.node l c r)) (h1 : ¬ l.height = r.height + 2) (h2 : ¬ r.height = l.height + 2) :
    Calls Tryd.prog 148 #[.pointer pl, chunkV c, .pointer pr] w fun e w' => ∃ p, e = .returned (.pointer p) ∧ isTree w' p (.node l c r) ∧ Below w.heap.size w w' := by
  have hb0 : ∀ o, Below w.heap.size w (w.alloc o) := fun o => (Below.refl _ w).alloc (Nat.le_refl _) o
  have cl := fun o => nheight_any pl l (w.alloc o) (isTree_below (hb0 o) hl)
  have cr := fun o => nheight_any pr r (w.alloc o) (isTree_below (hb0 o) hr)
  have ck := fun o => link_fits hz (isTree_below (hb0 o) hl) (isTree_below (hb0 o) hr)
  obtain ⟨_, _, _, _, _, s3, s4⟩ := big_node hz
  have k1 : (((l.height : Int) - r.height) == 2) = false := by rw [beq_eq_false_iff_ne]; omega
  have k2 : (((l.height : Int) - r.height) == -2) = false := by rw [beq_eq_false_iff_ne]; omega
  have k3 : 0 ≤ (l.height : Int) ∧ (l.height : Int) < 1000000000 := by omega
  have k4 : 0 ≤ (r.height : Int) ∧ (r.height : Int) < 1000000000 := by omega
  clear h1 h2 s3 s4 hz
  have HLR : Hid (isTree w pl l ∧ isTree w pr r) := ⟨hl, hr⟩
  clear hl hr
  generalize (l.height : Int) = x1 at *
  generalize (r.height : Int) = x2 at *
  unfold chunkV at *
  go_enter Tryd.func148, Tryd.ntmps148
  go_wp2_with (first | (go_at_call_of 147 pl; refine (cl _).mono ?_; rintro e w1 ⟨rfl, rfl⟩) | (go_at_call_of 147 pr; refine (cr _).mono ?_; rintro e w1 ⟨rfl, rfl⟩) | (go_at_call 145; refine (ck _).mono ?_; rintro e w2 ⟨p, rfl, ht, hb⟩; have HT : Hid _ := ht; clear ht) | fail)
  go_ret
  exact ⟨p, rfl, HT.out, (hb0 _).trans (hb.mono (hb0 _).size)⟩

end Go.Proofs.YtgmgkbbnciglhaaDoor

namespace Go.Proofs.YtgmgkbbnciglhaaDoor
open Go.RowKit
set_option linter.unusedVariables false
attribute [local go_sem] yieldsUpon okUpon

set_option maxRecDepth 100000 in
set_option maxHeartbeats 2000000 in
theorem turn_A (pl pr : Option Addr) (ll a d r : T) (c lc b : List Nat) (w : World) (hl : isTree w pl (.node ll lc (.node a b d))) (hr : isTree w pr r) (hz : big (.node (.node ll lc a) b (.node d c r))) (hd : (T.node ll lc (.node a b d)).height = r.height + 2) (hc : ll.height < (T.node a b d).height) :
    Calls Tryd.prog 148 #[.pointer pl, chunkV c, .pointer pr] w fun e w' => ∃ p, e = .returned (.pointer p) ∧ isTree w' p (.node (.node ll lc a) b (.node d c r)) ∧ Below w.heap.size w w' := by
  have hb0 : ∀ o, Below w.heap.size w (w.alloc o) := fun o => (Below.refl _ w).alloc (Nat.le_refl _) o
  have HL : Hid (isTree w pl (.node ll lc (.node a b d))) := hl
  have HR : Hid (isTree w pr r) := hr
  have cl := fun o => nheight_any pl (.node ll lc (.node a b d)) (w.alloc o) (isTree_below (hb0 o) hl)
  have cr := fun o => nheight_any pr r (w.alloc o) (isTree_below (hb0 o) hr)
  have hzT := hz
  obtain ⟨z1, z2, _, _⟩ := big_node hz
  obtain ⟨b1, pll, plr, rfl, ⟨uc0, uc1, uc2, uc3, uc4⟩, ⟨uc5, uc6⟩, _, _, hlu, hru⟩ := hl
  have hruT := hru
  obtain ⟨b2, pa, pd, rfl, ⟨vc0, vc1, vc2, vc3, vc4⟩, ⟨vc5, vc6⟩, _, _, hlv, hrv⟩ := hruT
  have hq : ((T.node ll lc (.node a b d)).height : Int) < 1000000000 ∧ (r.height : Int) < 1000000000 ∧ ((T.node a b d).height : Int) < 1000000000 ∧ (ll.height : Int) < 1000000000 := by
    have e1 := (big_node hz).2.2.2
    have e2 := height_size (T.node (.node ll lc a) b (.node d c r))
    have e3 := hz.2
    simp only [T.height, T.size] at *
    omega
  have hp : 0 ≤ ((T.node ll lc (.node a b d)).height : Int) ∧ 0 ≤ (r.height : Int) := by omega
  have k0 : ((T.node ll lc (.node a b d)).height : Int) = (r.height : Int) + 2 := by rw [hd]; push_cast; rfl
  have k1 : (((T.node ll lc (.node a b d)).height : Int) - r.height == 2) = true := by rw [beq_iff_eq]; omega
  have k2 : (((T.node ll lc (.node a b d)).height : Int) - r.height == -2) = false := by rw [beq_eq_false_iff_ne]; omega
  have k3 : ((ll.height : Int) < ((T.node a b d).height : Int)) := by omega
  have ck := fun wx (hb : Below w.heap.size w wx) => (nheight_any (some ⟨b2, 0, none⟩) (.node a b d) wx (isTree_below hb hru)).mono (R' := fun e w' => e = .returned (.int .i64 (T.node a b d).height) ∧ Below wx.heap.size wx w') (by rintro e w' ⟨rfl, rfl⟩; exact ⟨rfl, Below.refl _ _⟩)
  have co := fun wx (hb : Below w.heap.size w wx) => (nheight_any pll ll wx (isTree_below hb hlu)).mono (R' := fun e w' => e = .returned (.int .i64 ll.height) ∧ Below wx.heap.size wx w') (by rintro e w' ⟨rfl, rfl⟩; exact ⟨rfl, Below.refl _ _⟩)
  have HLU : Hid _ := hlu
  have HRU : Hid _ := hru
  have HLV : Hid _ := hlv
  have HRV : Hid _ := hrv
  clear k0 hd hc hzT
  generalize ((T.node ll lc (.node a b d)).height : Int) = x1 at *
  generalize (r.height : Int) = x2 at *
  generalize ((T.node a b d).height : Int) = x3 at *
  generalize (ll.height : Int) = x4 at *
  have HZ : Hid _ := hz
  have Hz1 : Hid _ := z1
  have Hz2 : Hid _ := z2
  clear hz z1 z2 hlu hru hlv hrv
  have d6 := fun o => cell_on (hb0 o) uc6
  unfold chunkV
  go_enter Tryd.func148, Tryd.ntmps148
  go_wp2_with (first | (go_at_call_of 147 b1; refine (cl _).mono ?_; rintro e w1 ⟨rfl, rfl⟩) | (go_at_call_of 147 pr; refine (cr _).mono ?_; rintro e w1 ⟨rfl, rfl⟩) | fail)
  obtain ⟨W1, hW1⟩ : ∃ W1, w.alloc (.cells #[.string (bytesOf c), .int .i64 (C1 c), .int .i64 (C2 c), .int .i64 (C3 c), .int .i64 (C4 c)] 181) = W1 := ⟨_, rfl⟩
  have hbW1 : Below w.heap.size w W1 := by rw [← hW1]; exact hb0 _
  have x0 : W1.cell? ⟨w.heap.size, 0, none⟩ = some (.string (bytesOf c)) := by rw [← hW1]; simp [go_sem]
  have y1 : W1.cell? ⟨w.heap.size, 1, none⟩ = some (.int .i64 (C1 c)) := by rw [← hW1]; simp [go_sem]
  have y2 : W1.cell? ⟨w.heap.size, 2, none⟩ = some (.int .i64 (C2 c)) := by rw [← hW1]; simp [go_sem]
  have y3 : W1.cell? ⟨w.heap.size, 3, none⟩ = some (.int .i64 (C3 c)) := by rw [← hW1]; simp [go_sem]
  have y4 : W1.cell? ⟨w.heap.size, 4, none⟩ = some (.int .i64 (C4 c)) := by rw [← hW1]; simp [go_sem]
  rw [hW1]
  clear hW1 cl cr
  obtain ⟨G0, hG0⟩ := exists_growth W1
  have hb0w : ∀ x, Below w.heap.size w (G0 x) := fun x => hbW1.trans ((hG0.below x).mono hbW1.size)
  have q5 := hG0.cell (cell_on hbW1 uc5)
  have HG0 : Hid (Growth W1 G0) := hG0
  refine wp_region_grow hG0 (by kernel_rfl) (by kernel_rfl) ?_
  clear hG0 d6
  repeat (first
    | go_big_quiet_skip
    | (go_big_quiet_want; go_big_quiet_op; first | go_big_quiet_on | (apply Exists.intro; refine ⟨fun _ => ?_, ?_⟩; (first | (go_at_call_of 147 b2; exact grow_of HG0.out (ck _ (hb0w _))) | (go_at_call_of 147 pll; exact grow_of HG0.out (co _ (hb0w _)))); go_big_quiet_on)))
  refine wpQuiet_nil ?_
  rintro w0 ⟨xx, rfl⟩
  go_wp2
  have hbx := hb0w xx
  have hbx1 : Below W1.heap.size W1 (G0 xx) := HG0.out.below xx
  obtain ⟨w0, hw0⟩ : ∃ w0, G0 xx = w0 := ⟨_, rfl⟩
  rw [hw0] at hbx hbx1 ⊢
  clear hw0 q5 HG0 hb0w ck co
  refine wp_region_rel 26 26 (by kernel_rfl) rfl ?_
  intro w1 hb1
  have hbw : Below w.heap.size w w1 := hbx.trans (hb1.mono hbx.size)
  have hbb : Below W1.heap.size W1 w1 := hbx1.trans (hb1.mono hbx1.size)
  obtain ⟨G, hG⟩ := exists_growth w1
  have g0 := hG.cell (cell_on hbb x0)
  have g1 := hG.cell (cell_on hbb y1)
  have g2 := hG.cell (cell_on hbb y2)
  have g3 := hG.cell (cell_on hbb y3)
  have g4 := hG.cell (cell_on hbb y4)
  have ug0 := hG.cell (cell_on hbw uc0)
  have ug1 := hG.cell (cell_on hbw uc1)
  have ug2 := hG.cell (cell_on hbw uc2)
  have ug3 := hG.cell (cell_on hbw uc3)
  have ug4 := hG.cell (cell_on hbw uc4)
  have ug5 := hG.cell (cell_on hbw uc5)
  have ug6 := hG.cell (cell_on hbw uc6)
  have vg0 := hG.cell (cell_on hbw vc0)
  have vg1 := hG.cell (cell_on hbw vc1)
  have vg2 := hG.cell (cell_on hbw vc2)
  have vg3 := hG.cell (cell_on hbw vc3)
  have vg4 := hG.cell (cell_on hbw vc4)
  have vg5 := hG.cell (cell_on hbw vc5)
  have vg6 := hG.cell (cell_on hbw vc6)
  clear uc0 uc1 uc2 uc3 uc4 uc5 uc6 vc0 vc1 vc2 vc3 vc4 vc5 vc6 x0 y1 y2 y3 y4 hbb hbx hbx1 hb1
  (refine anyG_step hG (i := 0) rfl (by kernel_rfl) (by kernel_rfl) (by kernel_rfl) (fun K hK => ?_); go_simp; refine hK _ ?_; clear hK K)
  (refine anyG_step hG (i := 1) rfl (by kernel_rfl) (by kernel_rfl) (by kernel_rfl) (fun K hK => ?_); go_simp; refine hK _ ?_; clear hK K)
  (refine anyG_step hG (i := 2) rfl (by kernel_rfl) (by kernel_rfl) (by kernel_rfl) (fun K hK => ?_); go_simp; refine hK _ ?_; clear hK K)
  (refine anyG_step hG (i := 3) rfl (by kernel_rfl) (by kernel_rfl) (by kernel_rfl) (fun K hK => ?_); go_simp; refine hK _ ?_; clear hK K)
  (refine anyG_step hG (i := 4) rfl (by kernel_rfl) (by kernel_rfl) (by kernel_rfl) (fun K hK => ?_); go_simp; refine hK _ ?_; clear hK K)
  (refine anyG_step hG (i := 5) rfl (by kernel_rfl) (by kernel_rfl) (by kernel_rfl) (fun K hK => ?_); go_simp; refine hK _ ?_; clear hK K)
  (refine anyG_step hG (i := 6) rfl (by kernel_rfl) (by kernel_rfl) (by kernel_rfl) (fun K hK => ?_); go_simp; refine hK _ ?_; clear hK K)
  (refine anyG_step hG (i := 7) rfl (by kernel_rfl) (by kernel_rfl) (by kernel_rfl) (fun K hK => ?_); go_simp; refine hK _ ?_; clear hK K)
  (refine anyG_step hG (i := 8) rfl (by kernel_rfl) (by kernel_rfl) (by kernel_rfl) (fun K hK => ?_); go_simp; refine hK _ ?_; clear hK K)
  (refine anyG_step hG (i := 9) rfl (by kernel_rfl) (by kernel_rfl) (by kernel_rfl) (fun K hK => ?_); go_simp; refine hK _ ?_; clear hK K)
  (refine anyG_step hG (i := 10) rfl (by kernel_rfl) (by kernel_rfl) (by kernel_rfl) (fun K hK => ?_); go_simp; refine hK _ ?_; clear hK K)
  (refine anyG_step hG (i := 11) rfl (by kernel_rfl) (by kernel_rfl) (by kernel_rfl) (fun K hK => ?_); go_simp; refine hK _ ?_; clear hK K)
  (refine anyG_step hG (i := 13) rfl (by kernel_rfl) (by kernel_rfl) (by kernel_rfl) (fun K hK => ?_); go_simp; refine hK _ ?_; clear hK K)
  (refine anyG_step hG (i := 14) rfl (by kernel_rfl) (by kernel_rfl) (by kernel_rfl) (fun K hK => ?_); go_simp; refine hK _ ?_; clear hK K)
  (refine anyG_step hG (i := 15) rfl (by kernel_rfl) (by kernel_rfl) (by kernel_rfl) (fun K hK => ?_); go_simp; refine hK _ ?_; clear hK K)
  (refine anyG_step hG (i := 16) rfl (by kernel_rfl) (by kernel_rfl) (by kernel_rfl) (fun K hK => ?_); go_simp; refine hK _ ?_; clear hK K)
  (refine anyG_step hG (i := 17) rfl (by kernel_rfl) (by kernel_rfl) (by kernel_rfl) (fun K hK => ?_); go_simp; refine hK _ ?_; clear hK K)
  (refine anyG_step hG (i := 18) rfl (by kernel_rfl) (by kernel_rfl) (by kernel_rfl) (fun K hK => ?_); go_simp; refine hK _ ?_; clear hK K)
  (refine anyG_step hG (i := 19) rfl (by kernel_rfl) (by kernel_rfl) (by kernel_rfl) (fun K hK => ?_); go_simp; refine hK _ ?_; clear hK K)
  (refine anyG_step hG (i := 20) rfl (by kernel_rfl) (by kernel_rfl) (by kernel_rfl) (fun K hK => ?_); go_simp; refine hK _ ?_; clear hK K)
  (refine anyG_step hG (i := 21) rfl (by kernel_rfl) (by kernel_rfl) (by kernel_rfl) (fun K hK => ?_); go_simp; refine hK _ ?_; clear hK K)
  (refine anyG_step hG (i := 22) rfl (by kernel_rfl) (by kernel_rfl) (by kernel_rfl) (fun K hK => ?_); go_simp; refine hK _ ?_; clear hK K)
  clear g0 g1 g2 g3 g4 ug0 ug1 ug2 ug3 ug4 ug5 ug6 vg0 vg1 vg2 vg3 vg4 vg5 vg6 hG
  refine anyG_one (i := 12) rfl (by kernel_rfl) ?_
  intro w2 hbw2 K hK
  have hww2 : Below w.heap.size w w2 := hbw.trans (hbw2.mono hbw.size)
  have ck := link_fits Hz1.out (isTree_below hww2 HLU.out) (isTree_below hww2 HLV.out)
  unfold chunkV at ck
  go_simp
  refine ck.mono ?_
  rintro e w3 ⟨p1, rfl, ht1, hb3⟩
  have hww3 : Below w.heap.size w w3 := hww2.trans (hb3.mono hww2.size)
  refine ⟨_, rfl, hK _ _ hb3 ?_⟩
  clear hK K ck
  refine anyG_one (i := 23) rfl (by kernel_rfl) ?_
  intro w4 hbw4 K hK
  have hww4 : Below w.heap.size w w4 := hww3.trans (hbw4.mono hww3.size)
  have ck := link_fits Hz2.out (isTree_below hww4 HRV.out) (isTree_below hww4 HR.out)
  unfold chunkV at ck
  go_simp
  refine ck.mono ?_
  rintro e w5 ⟨p2, rfl, ht2, hb5⟩
  have hww5 : Below w.heap.size w w5 := hww4.trans (hb5.mono hww4.size)
  refine ⟨_, rfl, hK _ _ hb5 ?_⟩
  clear hK K ck
  have ht1' := isTree_below (hbw4.trans (hb5.mono hbw4.size)) ht1
  refine anyG_one (i := 24) rfl (by kernel_rfl) ?_
  intro w6 hbw6 K hK
  have hww6 : Below w.heap.size w w6 := hww5.trans (hbw6.mono hww5.size)
  have ck := link_fits HZ.out (isTree_below hbw6 ht1') (isTree_below hbw6 ht2)
  unfold chunkV at ck
  go_simp
  refine ck.mono ?_
  rintro e w7 ⟨p3, rfl, ht3, hb7⟩
  have hww7 : Below w.heap.size w w7 := hww6.trans (hb7.mono hww6.size)
  refine ⟨_, rfl, hK _ _ hb7 ?_⟩
  clear hK K ck
  clear ht1 ht2 ht1'
  refine anyG_one (i := 25) rfl (by kernel_rfl) ?_
  intro w90 hb90 K hK
  go_simp
  refine hK _ _ (Below.refl _ w90) ?_
  clear hK K
  refine anyG_end (by kernel_rfl) ?_
  intro w91 hb91
  have hb92 := hb90.trans (hb91.mono hb90.size)
  have hw92 : Below w.heap.size w w91 := hww7.trans (hb92.mono hww7.size)
  have HT : Hid _ := isTree_below hb92 ht3
  clear hb90 hb91 hb92 ht3
  go_wp2
  go_ret
  exact ⟨_, rfl, HT.out, hw92⟩

end Go.Proofs.YtgmgkbbnciglhaaDoor

namespace Go.Proofs.YtgmgkbbnciglhaaDoor
open Go.RowKit
set_option linter.unusedVariables false
attribute [local go_sem] yieldsUpon okUpon

set_option maxRecDepth 100000 in
set_option maxHeartbeats 2000000 in
theorem turn_B (pl pr : Option Addr) (ll lr r : T) (c lc : List Nat) (w : World) (hl : isTree w pl (.node ll lc lr)) (hr : isTree w pr r) (hz : big (.node ll lc (.node lr c r))) (hd : (T.node ll lc lr).height = r.height + 2) (hc : ¬ ll.height < lr.height) :
    Calls Tryd.prog 148 #[.pointer pl, chunkV c, .pointer pr] w fun e w' => ∃ p, e = .returned (.pointer p) ∧ isTree w' p (.node ll lc (.node lr c r)) ∧ Below w.heap.size w w' := by
  have hb0 : ∀ o, Below w.heap.size w (w.alloc o) := fun o => (Below.refl _ w).alloc (Nat.le_refl _) o
  have HL : Hid (isTree w pl (.node ll lc lr)) := hl
  have HR : Hid (isTree w pr r) := hr
  have cl := fun o => nheight_any pl (.node ll lc lr) (w.alloc o) (isTree_below (hb0 o) hl)
  have cr := fun o => nheight_any pr r (w.alloc o) (isTree_below (hb0 o) hr)
  have hzT := hz
  obtain ⟨_, z2, _, _⟩ := big_node hz
  obtain ⟨b1, pll, plr, rfl, ⟨uc0, uc1, uc2, uc3, uc4⟩, ⟨uc5, uc6⟩, _, _, hlu, hru⟩ := hl
  have hq : ((T.node ll lc lr).height : Int) < 1000000000 ∧ (r.height : Int) < 1000000000 ∧ (lr.height : Int) < 1000000000 ∧ (ll.height : Int) < 1000000000 := by
    have e1 := (big_node hz).2.2.2
    have e2 := height_size (T.node ll lc (.node lr c r))
    have e3 := hz.2
    simp only [T.height, T.size] at *
    omega
  have hp : 0 ≤ ((T.node ll lc lr).height : Int) ∧ 0 ≤ (r.height : Int) := by omega
  have k0 : ((T.node ll lc lr).height : Int) = (r.height : Int) + 2 := by rw [hd]; push_cast; rfl
  have k1 : (((T.node ll lc lr).height : Int) - r.height == 2) = true := by rw [beq_iff_eq]; omega
  have k2 : (((T.node ll lc lr).height : Int) - r.height == -2) = false := by rw [beq_eq_false_iff_ne]; omega
  have k3 : ¬ ((ll.height : Int) < (lr.height : Int)) := by omega
  have ck := fun wx (hb : Below w.heap.size w wx) => (nheight_any plr lr wx (isTree_below hb hru)).mono (R' := fun e w' => e = .returned (.int .i64 lr.height) ∧ Below wx.heap.size wx w') (by rintro e w' ⟨rfl, rfl⟩; exact ⟨rfl, Below.refl _ _⟩)
  have co := fun wx (hb : Below w.heap.size w wx) => (nheight_any pll ll wx (isTree_below hb hlu)).mono (R' := fun e w' => e = .returned (.int .i64 ll.height) ∧ Below wx.heap.size wx w') (by rintro e w' ⟨rfl, rfl⟩; exact ⟨rfl, Below.refl _ _⟩)
  have HLU : Hid _ := hlu
  have HRU : Hid _ := hru
  clear k0 hd hc hzT
  generalize ((T.node ll lc lr).height : Int) = x1 at *
  generalize (r.height : Int) = x2 at *
  generalize (lr.height : Int) = x3 at *
  generalize (ll.height : Int) = x4 at *
  have HZ : Hid _ := hz
  have Hz2 : Hid _ := z2
  clear hz z2 hlu hru
  have d6 := fun o => cell_on (hb0 o) uc6
  unfold chunkV
  go_enter Tryd.func148, Tryd.ntmps148
  go_wp2_with (first | (go_at_call_of 147 b1; refine (cl _).mono ?_; rintro e w1 ⟨rfl, rfl⟩) | (go_at_call_of 147 pr; refine (cr _).mono ?_; rintro e w1 ⟨rfl, rfl⟩) | fail)
  obtain ⟨W1, hW1⟩ : ∃ W1, w.alloc (.cells #[.string (bytesOf c), .int .i64 (C1 c), .int .i64 (C2 c), .int .i64 (C3 c), .int .i64 (C4 c)] 181) = W1 := ⟨_, rfl⟩
  have hbW1 : Below w.heap.size w W1 := by rw [← hW1]; exact hb0 _
  have x0 : W1.cell? ⟨w.heap.size, 0, none⟩ = some (.string (bytesOf c)) := by rw [← hW1]; simp [go_sem]
  have y1 : W1.cell? ⟨w.heap.size, 1, none⟩ = some (.int .i64 (C1 c)) := by rw [← hW1]; simp [go_sem]
  have y2 : W1.cell? ⟨w.heap.size, 2, none⟩ = some (.int .i64 (C2 c)) := by rw [← hW1]; simp [go_sem]
  have y3 : W1.cell? ⟨w.heap.size, 3, none⟩ = some (.int .i64 (C3 c)) := by rw [← hW1]; simp [go_sem]
  have y4 : W1.cell? ⟨w.heap.size, 4, none⟩ = some (.int .i64 (C4 c)) := by rw [← hW1]; simp [go_sem]
  rw [hW1]
  clear hW1 cl cr
  obtain ⟨G0, hG0⟩ := exists_growth W1
  have hb0w : ∀ x, Below w.heap.size w (G0 x) := fun x => hbW1.trans ((hG0.below x).mono hbW1.size)
  have q5 := hG0.cell (cell_on hbW1 uc5)
  have HG0 : Hid (Growth W1 G0) := hG0
  refine wp_region_grow hG0 (by kernel_rfl) (by kernel_rfl) ?_
  clear hG0 d6
  repeat (first
    | go_big_quiet_skip
    | (go_big_quiet_want; go_big_quiet_op; first | go_big_quiet_on | (apply Exists.intro; refine ⟨fun _ => ?_, ?_⟩; (first | (go_at_call_of 147 plr; exact grow_of HG0.out (ck _ (hb0w _))) | (go_at_call_of 147 pll; exact grow_of HG0.out (co _ (hb0w _)))); go_big_quiet_on)))
  refine wpQuiet_nil ?_
  rintro w0 ⟨xx, rfl⟩
  go_wp2
  have hbx := hb0w xx
  have hbx1 : Below W1.heap.size W1 (G0 xx) := HG0.out.below xx
  obtain ⟨w0, hw0⟩ : ∃ w0, G0 xx = w0 := ⟨_, rfl⟩
  rw [hw0] at hbx hbx1 ⊢
  clear hw0 q5 HG0 hb0w ck co
  refine wp_region_rel 17 17 (by kernel_rfl) rfl ?_
  intro w1 hb1
  have hbw : Below w.heap.size w w1 := hbx.trans (hb1.mono hbx.size)
  have hbb : Below W1.heap.size W1 w1 := hbx1.trans (hb1.mono hbx1.size)
  obtain ⟨G, hG⟩ := exists_growth w1
  have g0 := hG.cell (cell_on hbb x0)
  have g1 := hG.cell (cell_on hbb y1)
  have g2 := hG.cell (cell_on hbb y2)
  have g3 := hG.cell (cell_on hbb y3)
  have g4 := hG.cell (cell_on hbb y4)
  have ug0 := hG.cell (cell_on hbw uc0)
  have ug1 := hG.cell (cell_on hbw uc1)
  have ug2 := hG.cell (cell_on hbw uc2)
  have ug3 := hG.cell (cell_on hbw uc3)
  have ug4 := hG.cell (cell_on hbw uc4)
  have ug5 := hG.cell (cell_on hbw uc5)
  have ug6 := hG.cell (cell_on hbw uc6)
  clear uc0 uc1 uc2 uc3 uc4 uc5 uc6  x0 y1 y2 y3 y4 hbb hbx hbx1 hb1
  (refine anyG_step hG (i := 0) rfl (by kernel_rfl) (by kernel_rfl) (by kernel_rfl) (fun K hK => ?_); go_simp; refine hK _ ?_; clear hK K)
  (refine anyG_step hG (i := 1) rfl (by kernel_rfl) (by kernel_rfl) (by kernel_rfl) (fun K hK => ?_); go_simp; refine hK _ ?_; clear hK K)
  (refine anyG_step hG (i := 2) rfl (by kernel_rfl) (by kernel_rfl) (by kernel_rfl) (fun K hK => ?_); go_simp; refine hK _ ?_; clear hK K)
  (refine anyG_step hG (i := 3) rfl (by kernel_rfl) (by kernel_rfl) (by kernel_rfl) (fun K hK => ?_); go_simp; refine hK _ ?_; clear hK K)
  (refine anyG_step hG (i := 4) rfl (by kernel_rfl) (by kernel_rfl) (by kernel_rfl) (fun K hK => ?_); go_simp; refine hK _ ?_; clear hK K)
  (refine anyG_step hG (i := 5) rfl (by kernel_rfl) (by kernel_rfl) (by kernel_rfl) (fun K hK => ?_); go_simp; refine hK _ ?_; clear hK K)
  (refine anyG_step hG (i := 6) rfl (by kernel_rfl) (by kernel_rfl) (by kernel_rfl) (fun K hK => ?_); go_simp; refine hK _ ?_; clear hK K)
  (refine anyG_step hG (i := 7) rfl (by kernel_rfl) (by kernel_rfl) (by kernel_rfl) (fun K hK => ?_); go_simp; refine hK _ ?_; clear hK K)
  (refine anyG_step hG (i := 8) rfl (by kernel_rfl) (by kernel_rfl) (by kernel_rfl) (fun K hK => ?_); go_simp; refine hK _ ?_; clear hK K)
  (refine anyG_step hG (i := 9) rfl (by kernel_rfl) (by kernel_rfl) (by kernel_rfl) (fun K hK => ?_); go_simp; refine hK _ ?_; clear hK K)
  (refine anyG_step hG (i := 10) rfl (by kernel_rfl) (by kernel_rfl) (by kernel_rfl) (fun K hK => ?_); go_simp; refine hK _ ?_; clear hK K)
  (refine anyG_step hG (i := 11) rfl (by kernel_rfl) (by kernel_rfl) (by kernel_rfl) (fun K hK => ?_); go_simp; refine hK _ ?_; clear hK K)
  (refine anyG_step hG (i := 12) rfl (by kernel_rfl) (by kernel_rfl) (by kernel_rfl) (fun K hK => ?_); go_simp; refine hK _ ?_; clear hK K)
  (refine anyG_step hG (i := 13) rfl (by kernel_rfl) (by kernel_rfl) (by kernel_rfl) (fun K hK => ?_); go_simp; refine hK _ ?_; clear hK K)
  clear g0 g1 g2 g3 g4 ug0 ug1 ug2 ug3 ug4 ug5 ug6  hG
  refine anyG_one (i := 14) rfl (by kernel_rfl) ?_
  intro w2 hbw2 K hK
  have hww2 : Below w.heap.size w w2 := hbw.trans (hbw2.mono hbw.size)
  have ck := link_fits Hz2.out (isTree_below hww2 HRU.out) (isTree_below hww2 HR.out)
  unfold chunkV at ck
  go_simp
  refine ck.mono ?_
  rintro e w3 ⟨p1, rfl, ht1, hb3⟩
  have hww3 : Below w.heap.size w w3 := hww2.trans (hb3.mono hww2.size)
  refine ⟨_, rfl, hK _ _ hb3 ?_⟩
  clear hK K ck
  refine anyG_one (i := 15) rfl (by kernel_rfl) ?_
  intro w4 hbw4 K hK
  have hww4 : Below w.heap.size w w4 := hww3.trans (hbw4.mono hww3.size)
  have ck := link_fits HZ.out (isTree_below hww4 HLU.out) (isTree_below hbw4 ht1)
  unfold chunkV at ck
  go_simp
  refine ck.mono ?_
  rintro e w5 ⟨p2, rfl, ht2, hb5⟩
  have hww5 : Below w.heap.size w w5 := hww4.trans (hb5.mono hww4.size)
  refine ⟨_, rfl, hK _ _ hb5 ?_⟩
  clear hK K ck
  clear ht1
  refine anyG_one (i := 16) rfl (by kernel_rfl) ?_
  intro w90 hb90 K hK
  go_simp
  refine hK _ _ (Below.refl _ w90) ?_
  clear hK K
  refine anyG_end (by kernel_rfl) ?_
  intro w91 hb91
  have hb92 := hb90.trans (hb91.mono hb90.size)
  have hw92 : Below w.heap.size w w91 := hww5.trans (hb92.mono hww5.size)
  have HT : Hid _ := isTree_below hb92 ht2
  clear hb90 hb91 hb92 ht2
  go_wp2
  go_ret
  exact ⟨_, rfl, HT.out, hw92⟩

end Go.Proofs.YtgmgkbbnciglhaaDoor
