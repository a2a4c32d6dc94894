/-
  utf.lead and utf.FromHalves: what they return of any slice of halves.
-/
import Derived.Test.YtedgnlgjmnccgabGreatDoorTexts
import Derived.Deep.QuietTactic
import Derived.BigQuiet
namespace Go.Proofs.YtedgnlgjmnccgabGreatDoor
open Go.RowKit
set_option linter.unusedVariables false

theorem or1024 (x y : Int) (h0 : 0 ≤ x) (h1 : x < 1024) (h2 : 0 ≤ y) (h3 : y < 1024) : bits BinOp.or IntKind.i32 (x * 1024) y = x * 1024 + y := by
  obtain ⟨a, rfl⟩ : ∃ a : Nat, x = a := ⟨x.toNat, by omega⟩
  obtain ⟨b, rfl⟩ : ∃ b : Nat, y = b := ⟨y.toNat, by omega⟩
  have e : (a : Int) * 1024 = ((a * 1024 : Nat) : Int) := by omega
  rw [e]
  show IntKind.i32.wrap ((BitVec.ofInt 32 ((a * 1024 : Nat) : Int) ||| BitVec.ofInt 32 (b : Int)).toNat : Int) = _
  have hm : a * 1024 ||| b = a * 1024 + b := by
    have := Nat.shiftLeft_add_eq_or_of_lt (i := 10) (b := b) (by omega) a
    rw [Nat.shiftLeft_eq] at this
    exact this.symm
  rw [BitVec.toNat_or, ofInt_u32 _ (by omega), ofInt_u32 _ (by omega), hm]
  exact (Lib.wrap_i32_small _ (by omega)).trans (by omega)

def firstB (h : Int) : Bool := decide (55296 ≤ h ∧ h < 56320)
def secondB (h : Int) : Bool := decide (56320 ≤ h ∧ h < 57344)

/-- The rune that halves begin with, and how many of them it has. -/
def leadZ : List Int → Int × Nat
  | [] => (0, 1)
  | [a] => (a, 1)
  | a :: b :: _ => if firstB a && secondB b then (65536 + ((a - 55296) * 1024 + (b - 56320)), 2) else (a, 1)

theorem leadZ_ge1 (zs : List Int) : 1 ≤ (leadZ zs).2 := by
  unfold leadZ
  split
  · simp
  · simp
  · split <;> simp
theorem leadZ_le {zs : List Int} (h : zs ≠ []) : (leadZ zs).2 ≤ zs.length := by
  unfold leadZ
  split
  · exact absurd rfl h
  · simp
  · split <;> simp

theorem leadZ_bd {zs : List Int} (h : ∀ z ∈ zs, 0 ≤ z ∧ z < 65536) : 0 ≤ (leadZ zs).1 ∧ (leadZ zs).1 ≤ 1114111 := by
  unfold leadZ
  split
  · simp
  · rename_i a
    have := h a (by simp)
    simp only []
    omega
  · rename_i a b t
    have h1 := h a (by simp)
    have h2 := h b (by simp)
    split
    · rename_i hc
      rw [Bool.and_eq_true] at hc
      have h3 := of_decide_eq_true hc.1
      have h4 := of_decide_eq_true hc.2
      simp only []
      omega
    · simp only []
      omega

/-- The runes of halves, each with how many it has, up to the first half that stands alone; and whether that is the end: n: as many at most. -/
def scanHF : Nat → List Int → List (Int × Nat) × Bool
  | 0, _ => ([], true)
  | n + 1, zs => if zs = [] then ([], true) else if Lib.validRune (leadZ zs).1 then (leadZ zs :: (scanHF n (zs.drop (leadZ zs).2)).1, (scanHF n (zs.drop (leadZ zs).2)).2) else ([], false)
theorem scanHF_any : ∀ (n m : Nat) (l : List Int), l.length ≤ n → l.length ≤ m → scanHF n l = scanHF m l
  | 0, m, l, hn, _ => by
    obtain rfl : l = [] := List.eq_nil_of_length_eq_zero (by omega)
    cases m <;> simp [scanHF]
  | n + 1, 0, l, _, hm => by
    obtain rfl : l = [] := List.eq_nil_of_length_eq_zero (by omega)
    simp [scanHF]
  | n + 1, m + 1, l, hn, hm => by
    unfold scanHF
    by_cases h : l = []
    · simp [h]
    · have h1 := leadZ_ge1 l
      have h2 : l.length ≠ 0 := by simpa using h
      rw [scanHF_any n m (l.drop (leadZ l).2) (by rw [List.length_drop]; omega) (by rw [List.length_drop]; omega)]
/-- All of them. -/
def scanH (zs : List Int) : List (Int × Nat) × Bool := scanHF zs.length zs
theorem scanH_step (l : List Int) (h : l ≠ []) : scanH l = if Lib.validRune (leadZ l).1 then (leadZ l :: (scanH (l.drop (leadZ l).2)).1, (scanH (l.drop (leadZ l).2)).2) else ([], false) := by
  have h1 := leadZ_ge1 l
  have h2 : l.length ≠ 0 := by simpa using h
  unfold scanH
  rw [scanHF_any l.length ((l.length - 1) + 1) l (Nat.le_refl _) (by omega), scanHF, if_neg h, scanHF_any (l.length - 1) (l.drop (leadZ l).2).length _ (by rw [List.length_drop]; omega) (Nat.le_refl _)]

theorem scanH_nil : scanH [] = ([], true) := rfl
theorem scanH_bad {zs : List Int} (h : zs ≠ []) (hb : Lib.validRune (leadZ zs).1 = false) : scanH zs = ([], false) := by rw [scanH_step zs h, hb]; rfl
theorem scanH_good {zs : List Int} (h : zs ≠ []) (hb : Lib.validRune (leadZ zs).1 = true) : scanH zs = (leadZ zs :: (scanH (zs.drop (leadZ zs).2)).1, (scanH (zs.drop (leadZ zs).2)).2) := by
  rw [scanH_step zs h, hb]; rfl
def placeH (zs : List Int) : Nat := ((scanH zs).1.map (·.2)).sum

set_option maxHeartbeats 400000 in
theorem isFirst_any (h : Int) (w : World) : Calls Tryz.prog 213 #[.int .u16 h] w fun e w' => e = .returned (.bool (firstB h)) ∧ w' = w := by
  by_cases h1 : 55296 ≤ h
  · by_cases h2 : h < 56320
    · have e : firstB h = true := decide_eq_true ⟨h1, h2⟩
      rw [e]; clear e
      go_enter Tryz.func213, Tryz.ntmps213
      go_wp2
      go_ret
      exact ⟨rfl, rfl⟩
    · have e : firstB h = false := decide_eq_false fun c => h2 c.2
      rw [e]; clear e
      go_enter Tryz.func213, Tryz.ntmps213
      go_wp2
      go_ret
      exact ⟨rfl, rfl⟩
  · have e : firstB h = false := decide_eq_false fun c => h1 c.1
    rw [e]; clear e
    go_enter Tryz.func213, Tryz.ntmps213
    go_wp2
    go_ret
    exact ⟨rfl, rfl⟩
set_option maxHeartbeats 400000 in
theorem isSecond_any (h : Int) (w : World) : Calls Tryz.prog 214 #[.int .u16 h] w fun e w' => e = .returned (.bool (secondB h)) ∧ w' = w := by
  by_cases h1 : 56320 ≤ h
  · by_cases h2 : h < 57344
    · have e : secondB h = true := decide_eq_true ⟨h1, h2⟩
      rw [e]; clear e
      go_enter Tryz.func214, Tryz.ntmps214
      go_wp2
      go_ret
      exact ⟨rfl, rfl⟩
    · have e : secondB h = false := decide_eq_false fun c => h2 c.2
      rw [e]; clear e
      go_enter Tryz.func214, Tryz.ntmps214
      go_wp2
      go_ret
      exact ⟨rfl, rfl⟩
  · have e : secondB h = false := decide_eq_false fun c => h1 c.1
    rw [e]; clear e
    go_enter Tryz.func214, Tryz.ntmps214
    go_wp2
    go_ret
    exact ⟨rfl, rfl⟩

set_option maxHeartbeats 1000000 in
theorem lead_one (b o c : Nat) (h : Int) (w : World) (hc : w.cell? ⟨b, o, none⟩ = some (.int .u16 h)) (h0 : 0 ≤ h) (h1 : h < 65536) :
    Calls Tryz.prog 161 #[.slice (some ⟨b, o, none⟩) 1 c] w fun e w' => e = .returned (.tuple #[.int .i32 h, .int .i64 1]) ∧ Below w.heap.size w w' := by
  go_enter Tryz.func161, Tryz.ntmps161
  go_wp2
  go_ret2
  exact ⟨rfl, Below.refl _ _⟩

set_option maxHeartbeats 1000000 in
theorem lead_two (b o n c : Nat) (h g : Int) (w : World) (hn : 2 ≤ n) (hcap : n ≤ c) (hm : c ≤ maxLen) (hc : w.cell? ⟨b, o, none⟩ = some (.int .u16 h)) (hd : w.cell? ⟨b, o + 1, none⟩ = some (.int .u16 g)) (h0 : 0 ≤ h) (h1 : h < 65536) (g0 : 0 ≤ g) (g1 : g < 65536) :
    Calls Tryz.prog 161 #[.slice (some ⟨b, o, none⟩) n c] w fun e w' => e = .returned (.tuple #[.int .i32 (leadZ [h, g]).1, .int .i64 (leadZ [h, g]).2]) ∧ Below w.heap.size w w' := by
  unfold maxLen at hm
  have hn1 : (1 : Int) < (n : Int) := by omega
  by_cases hf : firstB h = true
  · have cF := isFirst_any h
    rw [hf] at cF
    by_cases hs : secondB g = true
    · have cS := isSecond_any g
      rw [hs] at cS
      have e : leadZ [h, g] = (65536 + ((h - 55296) * 1024 + (g - 56320)), 2) := by simp [leadZ, hf, hs]
      rw [e]
      have hf' := of_decide_eq_true hf
      have hs' := of_decide_eq_true hs
      have ho := or1024 (h - 55296) (g - 56320) (by omega) (by omega) (by omega) (by omega)
      clear e hf hs
      obtain ⟨f1, f2⟩ := hf'
      obtain ⟨s1, s2⟩ := hs'
      go_enter Tryz.func161, Tryz.ntmps161
      go_wp2_with (first | (go_at_call 213; refine (cF _).mono ?_; rintro e wx ⟨rfl, rfl⟩) | (go_at_call 214; refine (cS _).mono ?_; rintro e wx ⟨rfl, rfl⟩) | fail)
      go_quiet (fail)
      go_wp2
      go_ret2
      exact ⟨rfl, below_drewN (Below.refl _ _) nq⟩
    · have hs : secondB g = false := Bool.eq_false_iff.2 hs
      have cS := isSecond_any g
      rw [hs] at cS
      have e : leadZ [h, g] = (h, 1) := by simp [leadZ, hs]
      rw [e]
      clear e hf hs
      go_enter Tryz.func161, Tryz.ntmps161
      go_wp2_with (first | (go_at_call 213; refine (cF _).mono ?_; rintro e wx ⟨rfl, rfl⟩) | (go_at_call 214; refine (cS _).mono ?_; rintro e wx ⟨rfl, rfl⟩) | fail)
      go_ret2
      exact ⟨rfl, Below.refl _ _⟩
  · have hf : firstB h = false := Bool.eq_false_iff.2 hf
    have cF := isFirst_any h
    rw [hf] at cF
    have e : leadZ [h, g] = (h, 1) := by simp [leadZ, hf]
    rw [e]
    clear e hf
    go_enter Tryz.func161, Tryz.ntmps161
    go_wp2_with (first | (go_at_call 213; refine (cF _).mono ?_; rintro e wx ⟨rfl, rfl⟩) | fail)
    go_ret2
    exact ⟨rfl, Below.refl _ _⟩

/-- utf.lead of whatever stands behind a place. -/
theorem lead_any (b o n c k : Nat) (zs : List Int) (w : World) (hn : n = zs.length) (hk : k < n) (hcap : n ≤ c) (hm : c ≤ maxLen) (hc : ∀ i, i < n → w.cell? ⟨b, o + i, none⟩ = some (.int .u16 (zs.getD i 0))) (hz : ∀ z ∈ zs, 0 ≤ z ∧ z < 65536) :
    Calls Tryz.prog 161 #[.slice (some ⟨b, o + k, none⟩) (n - k : Nat) (c - k)] w fun e w' => e = .returned (.tuple #[.int .i32 (leadZ (zs.drop k)).1, .int .i64 (leadZ (zs.drop k)).2]) ∧ Below w.heap.size w w' := by
  have hk' : k < zs.length := by omega
  have e1 : zs.drop k = zs[k] :: zs.drop (k + 1) := List.drop_eq_getElem_cons hk'
  have m1 := hz zs[k] (List.getElem_mem _)
  have c1 := hc k hk
  have d1 : zs.getD k 0 = zs[k] := by rw [List.getD_eq_getElem?_getD, List.getElem?_eq_getElem hk']; rfl
  rw [d1] at c1
  by_cases h1 : n - k = 1
  · have e2 : zs.drop (k + 1) = [] := List.drop_eq_nil_of_le (by omega)
    rw [e1, e2, h1]
    exact lead_one b (o + k) (c - k) _ w c1 m1.1 m1.2
  · have hk2 : k + 1 < zs.length := by omega
    have e2 : zs.drop (k + 1) = zs[k + 1] :: zs.drop (k + 1 + 1) := List.drop_eq_getElem_cons hk2
    have m2 := hz zs[k + 1] (List.getElem_mem _)
    have c2 := hc (k + 1) (by omega)
    have d2 : zs.getD (k + 1) 0 = zs[k + 1] := by rw [List.getD_eq_getElem?_getD, List.getElem?_eq_getElem hk2]; rfl
    rw [d2] at c2
    have e3 : leadZ (zs.drop k) = leadZ [zs[k], zs[k + 1]] := by rw [e1, e2]; rfl
    rw [e3]
    exact lead_two b (o + k) (n - k) (c - k) _ _ w (by omega) (by omega) (by omega) c1 c2 m1.1 m1.2 m2.1 m2.2

set_option maxHeartbeats 1000000 in
theorem FromHalves_any (v : Value) (zs : List Int) (w : World) (hz : ∀ z ∈ zs, 0 ≤ z ∧ z < 65536) (hr : reads w .u16 v zs) (hl : zs.length < 100000000) :
    Calls Tryz.prog 97 #[v] w fun e w' => ∃ s x, e = .returned (.tuple #[.string s, x]) ∧ Below w.heap.size w w' ∧
      (((scanH zs).2 = true ∧ x = .nilIface ∧ s = ⟨(encZ ((scanH zs).1.map (·.1))).toArray⟩) ∨
       ((scanH zs).2 = false ∧ s = ⟨#[]⟩ ∧ isAt w w' x (placeH zs))) := by
  obtain ⟨p, c, rfl, r1, r2, r3⟩ := hr
  obtain ⟨n, hn⟩ : ∃ n, n = zs.length := ⟨_, rfl⟩
  rw [← hn] at r1 r3 hl ⊢
  have HN : Hid (n = zs.length) := hn
  clear hn
  have R3 : Hid (zs ≠ [] → ∃ b o, p = some ⟨b, o, none⟩ ∧ b < w.heap.size ∧ ∀ i, i < n → w.cell? ⟨b, o + i, none⟩ = some (.int .u16 (zs.getD i 0))) := r3
  have HZ : Hid (∀ z ∈ zs, 0 ≤ z ∧ z < 65536) := hz
  clear r3 hz
  go_enter Tryz.func97, Tryz.ntmps97
  go_wp2
  go_loopw [4, 5] (fun b i wr => ∃ (k : Nat) (done : List (Int × Nat)), k ≤ n ∧ i = .int .i64 k ∧ (scanH zs).1 = done ++ (scanH (zs.drop k)).1 ∧ (done.map (·.2)).sum = k ∧ (scanH zs).2 = (scanH (zs.drop k)).2 ∧ done.length ≤ k ∧
      wr.ownsRow w.heap.size 5 1 b (encZ (done.map (·.1))).length (Lib.byteCells (encZ (done.map (·.1)))) ∧ Below w.heap.size w wr) (fun _ i _ => n - (intOf i).toNat)
  case atStart => exact ⟨0, [], Nat.zero_le _, rfl, by rw [List.drop_zero]; rfl, rfl, by rw [List.drop_zero], Nat.le_refl _, World.ownsRow_nil _ _ _ _, Below.refl _ _⟩
  case round =>
    obtain ⟨k, done, hk, rfl, hd1, hd2, hd3, hdl, hown, hwr⟩ := hrel
    by_cases hlt : k < n
    · have hne : zs ≠ [] := by intro e; rw [HN.out, e] at hlt; exact absurd hlt (Nat.not_lt_zero _)
      have hne2 : zs.drop k ≠ [] := by
        intro e
        have := congrArg List.length e
        rw [List.length_drop, List.length_nil, ← HN.out] at this
        omega
      obtain ⟨b, o, rfl, hbw, hcell⟩ := R3.out hne
      have cL := lead_any b o n c k zs wr HN.out hlt r1 r2 (fun i hi => (hwr.cell (p := ⟨b, o + i, none⟩) hbw).trans (hcell i hi)) HZ.out
      have hge := leadZ_ge1 (zs.drop k)
      have hle := leadZ_le hne2
      rw [List.length_drop, ← HN.out] at hle
      have hzb : -2147483648 ≤ (leadZ (zs.drop k)).1 ∧ (leadZ (zs.drop k)).1 ≤ 2147483647 := by
        have := leadZ_bd (zs := zs.drop k) fun z hz => HZ.out z (List.mem_of_mem_drop hz)
        omega
      obtain ⟨z, hzz⟩ : ∃ z, z = (leadZ (zs.drop k)).1 := ⟨_, rfl⟩
      obtain ⟨m, hmm⟩ : ∃ m, m = (leadZ (zs.drop k)).2 := ⟨_, rfl⟩
      have hp : leadZ (zs.drop k) = (z, m) := by rw [hzz, hmm]
      have cV := Tryz.utf8_ValidRune z
      have hlen := encZ_len (done.map (·.1))
      rw [List.length_map] at hlen
      have hlen4 : (encZ (done.map (·.1))).length + 4 ≤ 140737488355328 := by omega
      rw [← hzz] at hzb
      have cA := fun (wx : World) (hx : Below wr.heap.size wr wx) => Tryz.utf8_AppendRune_plain w.heap.size _ _ _ z hzb.1 hzb.2 wx (own_below hown hx) hlen4 (Nat.le_trans hwr.size hx.size)
      rw [hp] at cL hge hle
      simp only [] at hge hle
      clear hlen hlen4 hzb
      by_cases hv : Lib.validRune z = true
      · have hs2 := scanH_good hne2 (by rw [hp]; exact hv)
        rw [hp] at hs2
        rw [hv] at cV
        have hnext : Hid ((scanH zs).1 = done ++ [(z, m)] ++ (scanH (zs.drop (k + m))).1) := by
          show _ = _
          rw [hd1, hs2, List.append_assoc]
          simp only [List.drop_drop]
          rfl
        have hnext2 : Hid (((done ++ [(z, m)]).map (·.2)).sum = k + m) := by
          show _ = _
          rw [List.map_append, List.sum_append, hd2]; rfl
        have hnext3 : Hid ((scanH zs).2 = (scanH (zs.drop (k + m))).2) := by
          show _ = _
          rw [hd3, hs2]
          simp only [List.drop_drop]
        have hnext4 : Hid ((done ++ [(z, m)]).length ≤ k + m) := by
          show _ ≤ _
          rw [List.length_append]
          simp
          omega
        have NX : Hid (∀ wx w1 v' o, Below wr.heap.size wr wx → w1.ownsRow w.heap.size 5 1 v' ((encZ (done.map (·.1))).length + (Lib.runeCells z).length) (Lib.byteCells (encZ (done.map (·.1))) ++ Lib.runeCells z) → (wx.alloc o).grownBy w1 u4.ownBlock →
            w1.ownsRow w.heap.size 5 1 v' (encZ ((done ++ [(z, m)]).map (·.1))).length (Lib.byteCells (encZ ((done ++ [(z, m)]).map (·.1)))) ∧ Below w.heap.size w w1) := by
          intro wx w1 v' o hx h1 hg
          rw [List.map_append]
          exact bytes_next rfl (hwr.trans (hx.mono hwr.size)) (own_below hown hx) h1 hg
        clear hd1 hd2 hd3 hdl hs2 hown hv hzz hmm hp R3 HZ hcell hne hne2
        go_wp2_with (first | (go_at_call 161; refine cL.mono ?_; rintro e w0 ⟨rfl, hb0⟩) | (go_at_call 162; refine (cV _).mono ?_; rintro e wx ⟨rfl, rfl⟩) | (go_at_call 164; refine (cA _ hb0).mono ?_; rintro e w1 ⟨v', rfl, h1, o', hg⟩; have hnx := NX.out _ w1 v' o' hb0 h1 hg; clear h1 hg) | fail)
        go_roundw
        case rel => exact ⟨k + m, _, by omega, by go_num, hnext.out, hnext2.out, hnext3.out, hnext4.out, hnx.1, hnx.2⟩
        case measure => simp [intOf]; omega
      · have hv : Lib.validRune z = false := Bool.eq_false_iff.2 hv
        have hs2 := scanH_bad hne2 (by rw [hp]; exact hv)
        rw [hv] at cV
        have hpl : Hid (placeH zs = k) := by
          show _ = _
          unfold placeH
          rw [hd1, hs2, List.append_nil, hd2]
        have hf : Hid ((scanH zs).2 = false) := by show _ = _; rw [hd3, hs2]
        clear hd1 hd2 hd3 hdl hs2 hown hv hzz hmm hp R3 HZ hcell hne hne2 cA
        go_wp2_with (first | (go_at_call 161; refine cL.mono ?_; rintro e w0 ⟨rfl, hb0⟩) | (go_at_call 162; refine (cV _).mono ?_; rintro e wx ⟨rfl, rfl⟩) | (go_at_call 163; refine (wrong_any _ _).mono ?_; rintro e w1 ⟨⟨x, rfl, hx⟩, hb1⟩) | fail)
        go_ret2
        have hb01 : Below wr.heap.size wr w1 := hb0.trans (hb1.mono hb0.size)
        refine ⟨_, _, rfl, hwr.trans (hb01.mono hwr.size), .inr ⟨hf.out, rfl, ?_⟩⟩
        rw [hpl.out]
        exact isAt_from hx (Nat.le_trans hwr.size hb0.size)
    · have e : zs.drop k = [] := List.drop_eq_nil_of_le (by rw [← HN.out]; omega)
      rw [e, scanH_nil] at hd1 hd3
      rw [List.append_nil] at hd1
      rw [← hd1] at hown
      have hs := string_own rfl hown
      have hf : Hid ((scanH zs).2 = true) := hd3
      clear hown e R3 HZ hd1 hd3
      go_wp2
      go_ret2
      refine ⟨_, _, rfl, hwr, .inl ⟨hf.out, rfl, rfl⟩⟩
end Go.Proofs.YtedgnlgjmnccgabGreatDoor
