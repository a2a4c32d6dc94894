/-
  rosettakeep.UtfBack returns true at whatever text, runes and halves.
-/
import Derived.Test.YtiokdpjoinbcaaaDoorBackLawA
import Derived.Test.YtiokdpjoinbcaaaDoorBackLawB
import Derived.Test.YtiokdpjoinbcaaaDoorBackLawC
import Derived.Test.YtiokdpjoinbcaaaDoorBackLawD
namespace Go.Proofs.YtiokdpjoinbcaaaDoor
open Go.RowKit

set_option maxRecDepth 100000 in
set_option maxHeartbeats 1000000 in
theorem back_long (s : ByteArray) (hs : s.size ≤ maxLen) (p1 p2 : Option Addr) (n1 c1 n2 c2 : Nat) (m1 : n1 ≤ maxLen) (m2 : n2 ≤ maxLen) (w : World) (h : 500 < s.size ∨ 200 < n1 ∨ 200 < n2) :
    Calls Tryd.prog 5 #[.string s, .slice p1 n1 c1, .slice p2 n2 c2] w fun e w' => e = .returned (.bool true) ∧ Below w.heap.size w w' := by
  unfold maxLen at hs m1 m2
  by_cases h1 : (500 : Int) < (s.size : Int)
  · clear h
    go_enter Tryd.func5, Tryd.ntmps5
    go_wp2
    go_ret
    exact ⟨rfl, Below.refl _ _⟩
  by_cases h2 : (200 : Int) < (n1 : Int)
  · clear h
    go_enter Tryd.func5, Tryd.ntmps5
    go_wp2
    go_ret
    exact ⟨rfl, Below.refl _ _⟩
  have h3 : (200 : Int) < (n2 : Int) := by omega
  clear h
  go_enter Tryd.func5, Tryd.ntmps5
  go_wp2
  go_ret
  exact ⟨rfl, Below.refl _ _⟩

theorem back_any (s : ByteArray) (hs : s.size ≤ maxLen) (v1 v2 : Value) (zl zh : List Int) (w : World) (hT : Lib.Utf8Tabs 1 2 w)
    (hzl : ∀ z ∈ zl, -2147483648 ≤ z ∧ z ≤ 2147483647) (hrl : reads w .i32 v1 zl) (hzh : ∀ z ∈ zh, 0 ≤ z ∧ z < 65536) (hrh : reads w .u16 v2 zh) :
    Calls Tryd.prog 5 #[.string s, v1, v2] w fun e w' => e = .returned (.bool true) ∧ Below w.heap.size w w' := by
  by_cases hlong : 500 < s.size ∨ 200 < zl.length ∨ 200 < zh.length
  · obtain ⟨p1, c1, rfl, a1, a2, _⟩ := hrl
    obtain ⟨p2, c2, rfl, b1, b2, _⟩ := hrh
    exact back_long s hs p1 p2 _ c1 _ c2 (Nat.le_trans a1 a2) (Nat.le_trans b1 b2) w hlong
  have hs' : s.size ≤ 500 := by omega
  have hl : zl.length ≤ 200 := by omega
  have hh : zh.length ≤ 200 := by omega
  by_cases hvh : (scanH zh).2 = true
  · obtain ⟨rh, _, hrv, rfl⟩ := hals_scanH zh.length zh (Nat.le_refl _) hzh hvh
    by_cases hvl : ∀ z ∈ zl, Lib.validRune z = true
    · obtain ⟨rl, rfl, hlv⟩ := runes_of_valid hvl
      by_cases ok : (scan s.data.toList).2 = true
      · exact back_ttt s v1 v2 rl rh w hT hs' ok hlv hrl hl hrv hrh hh
      · exact back_ftt s v1 v2 rl rh w hT hs' (Bool.eq_false_iff.2 ok) hlv hrl hl hrv hrh hh
    · by_cases ok : (scan s.data.toList).2 = true
      · exact back_tft s v1 v2 zl rh w hT hs' ok hzl hvl hrl hl hrv hrh hh
      · exact back_fft s v1 v2 zl rh w hT hs' (Bool.eq_false_iff.2 ok) hzl hvl hrl hl hrv hrh hh
  · have hvh : (scanH zh).2 = false := Bool.eq_false_iff.2 hvh
    by_cases hvl : ∀ z ∈ zl, Lib.validRune z = true
    · obtain ⟨rl, rfl, hlv⟩ := runes_of_valid hvl
      by_cases ok : (scan s.data.toList).2 = true
      · exact back_ttf s v1 v2 rl zh w hT hs' ok hlv hrl hl hzh hvh hrh hh
      · exact back_ftf s v1 v2 rl zh w hT hs' (Bool.eq_false_iff.2 ok) hlv hrl hl hzh hvh hrh hh
    · by_cases ok : (scan s.data.toList).2 = true
      · exact back_tff s v1 v2 zl zh w hT hs' ok hzl hvl hrl hl hzh hvh hrh hh
      · exact back_fff s v1 v2 zl zh w hT hs' (Bool.eq_false_iff.2 ok) hzl hvl hrl hl hzh hvh hrh hh
end Go.Proofs.YtiokdpjoinbcaaaDoor
