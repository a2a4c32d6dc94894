/-
  rope.pieces: what its iterator does with the rounds of a loop.
-/
import Derived.Test.YtldhbjmillfjgabGreatDoorCutPure
import Derived.Test.YtldhbjmillfjgabGreatDoorRegionBut
import Derived.Test.YtldhbjmillfjgabGreatDoorLoopOwn
import Derived.Test.YtldhbjmillfjgabGreatDoorShelfR
import Derived.OwnWalkIn
import Derived.TacticsInMore
import Derived.LoopNIn
import Derived.LoopIn
namespace Go.Proofs.YtldhbjmillfjgabGreatDoor
open Go.RowKit
set_option linter.unusedVariables false
attribute [local go_sem] Oper.semAt_some

theorem pieces_any (s : ByteArray) (w : World) : Calls Tryz.prog 114 #[.string s] w fun e w' => e = .returned (.func (.func 160) #[] #[.pointer (some ⟨w.heap.size, 0, none⟩)]) ∧ w' = w.alloc (.cells #[.string s] 9) := by
  go_enter Tryz.func114, Tryz.ntmps114
  go_wp2
  go_ret
  exact ⟨rfl, rfl⟩

/-- How long the text in a variable is. -/
def leftAt (sb : Nat) (w : World) : Nat := match w.cell? ⟨sb, 0, none⟩ with | some (.string s) => s.size | _ => 0
theorem leftAt_eq {sb : Nat} {w : World} {s : ByteArray} (h : w.cell? ⟨sb, 0, none⟩ = some (.string s)) : leftAt sb w = s.size := by unfold leftAt; rw [h]

set_option maxRecDepth 100000 in
set_option maxHeartbeats 2000000 in
theorem pieces_seq (rs : List Nat) (hr : ∀ r ∈ rs, isRune r) (hz : (encs rs).length < 1000000000) (Z : World → Prop) (sb : Nat) (W : World) (hsb : W.cell? ⟨sb, 0, none⟩ = some (.string (bytesOf rs))) (hfz : W.frozen? ⟨sb, 0, none⟩ = false) :
    SeqOwn Tryz.prog 160 #[.pointer (some ⟨sb, 0, none⟩)] (fun _ (x : List Nat) => #[.string (bytesOf x)]) (fun A B => (∃ v, B = A.setCell ⟨sb, 0, none⟩ v) ∧ W.heap.size ≤ A.heap.size) (fun A B => A.heap.size ≤ B.heap.size ∧ B.heap[sb]? = A.heap[sb]?) Z
      (fun xs => xs.flatten = rs ∧ ∀ x ∈ xs, okChunk x) (fun pre => (∃ rest, rs = pre.flatten ++ rest) ∧ ∀ x ∈ pre, okChunk x) W := by
  intro l J Jx hZ hZx hJ hJx hR hj0
  have hlt := World.block_lt_of_cell? W _ hsb
  refine callsIn_of_wp Tryz.func160 rfl trivial ?_ rfl
  simp only [Tryz.ntmps160, List.size_toArray, List.length_cons, List.length_nil, Nat.reduceAdd, Nat.reduceSub, Array.replicate_succ, Array.replicate_zero, List.push_toArray, List.append_toArray, List.nil_append, List.cons_append]
  gi_wp2
  gi_loopw [3] (fun p wr => ∃ (pre : List (List Nat)) (rest : List Nat), rs = pre.flatten ++ rest ∧ (∀ x ∈ pre, okChunk x) ∧ wr.cell? ⟨sb, 0, none⟩ = some (.string (bytesOf rest)) ∧ wr.frozen? ⟨sb, 0, none⟩ = false ∧ W.heap.size ≤ wr.heap.size ∧ J pre wr) (fun p wr => leftAt sb wr)
  case atStart => exact ⟨[], rs, rfl, (fun _ h => by cases h), hsb, hfz, Nat.le_refl _, hj0⟩
  case round =>
    obtain ⟨pre, rest, hrs, hok, hc, hf, hs, hjp⟩ := hrel
    by_cases hne : rest = []
    · subst hne
      have e0 : (bytesOf []).size = 0 := rfl
      have e1 : Hid (pre.flatten = rs) := by show _ = _; rw [hrs]; simp
      clear hrs
      generalize bytesOf [] = S at *
      gi_wp2
      go_end0
      exact ⟨⟨_, rfl⟩, .inl ⟨pre, ⟨e1.out, hok⟩, hjp⟩⟩
    · have hrr : ∀ r ∈ rest, isRune r := fun r h => hr r (by rw [hrs]; simp [h])
      obtain ⟨f, f1, f4, fe, fl⟩ := first_len hrr hne
      have hlen : (encs rest).length ≤ (encs rs).length := by rw [hrs, encs_append, List.length_append]; omega
      have hSl : (bytesOf rest).data.toList = encs rest := rfl
      have hcut := fun (j : Nat) (h : edgeAt rest j) (h0 : 0 < j) (h32 : j ≤ 32) => cut_at hrr h h0 h32
      have hst := fun (j : Nat) (b : UInt8) (h : (encs rest)[j]? = some b) (hb : startB b = true) => edgeAt_of_start hrr h hb
      have hst2 := fun (j : Nat) (b : UInt8) (h : edgeAt rest j) (hb : (encs rest)[j]? = some b) => start_of_edgeAt hrr h hb
      rw [← bytesOf_size] at fl hlen
      have HCUT : Hid _ := hcut
      have HST : Hid _ := hst
      have HST2 : Hid _ := hst2
      have HFE : Hid (edgeAt rest f) := fe
      have HEND : Hid (edgeAt rest (bytesOf rest).size) := by show edgeAt _ _; rw [bytesOf_size]; exact edgeAt_end rest
      have HSL : Hid ((bytesOf rest).data.toList = encs rest) := hSl
      have HRS : Hid (rs = pre.flatten ++ rest) := hrs
      obtain ⟨n, hn⟩ : ∃ n, n = (bytesOf rest).size := ⟨_, rfl⟩
      have hn1 : 1 ≤ n := by omega
      have hn2 : n < 1000000000 := by omega
      have hpos : 0 < n := hn1
      clear hcut hst hst2 fe hSl hrs hr hrr
      obtain ⟨S, hS⟩ : ∃ S, S = bytesOf rest := ⟨_, rfl⟩
      rw [← hS] at hc hn fl HEND HSL HCUT
      rw [← hn] at fl HEND HCUT
      have HS : Hid (S = bytesOf rest) := hS
      have HN : Hid (n = S.size) := hn
      have hn' : S.size = n := hn.symm
      clear hS hn hlen hz
      gi_wp2
      gi_loop [3] (fun p => ∃ j : Nat, p = .int .i64 j ∧ f ≤ j ∧ j ≤ n ∧ j ≤ 32) (fun p => (intOf p).toNat)
      case atStart => exact ⟨min n 32, by rw [show ((min n 32 : Nat) : Int) = min (n : Int) 32 by omega], by omega, by omega, by omega⟩
      case round =>
        obtain ⟨j, rfl, hj1, hj2, hj3⟩ := hrel
        by_cases hlt2 : j < n
        · have hjS : j < S.size := by rw [hn']; exact hlt2
          have hb? : (encs rest)[j]? = some S[j] := by rw [← HSL.out, Array.getElem?_toList, Array.getElem?_eq_getElem (by simpa using hjS)]; rfl
          have cR := fun wx => Tryz.utf8_RuneStart (S[j].toNat : Int) wx (by omega) (by have := S[j].toNat_lt; omega)
          by_cases hb : startB S[j] = true
          · have hedge := HST.out j _ hb? hb
            have hb' : Lib.runeStart (S[j].toNat : Int) = true := hb
            rw [hb'] at cR
            clear hb hb' hb?
            obtain ⟨x, y, hxy, hx, hc1, hc2, hyl⟩ := HCUT.out j hedge (by omega) hj3
            have hSp : (∃ rest', rs = (pre ++ [x]).flatten ++ rest') ∧ ∀ z ∈ pre ++ [x], okChunk z := ⟨⟨y, by rw [HRS.out, hxy]; simp⟩, fun z hz => by rcases List.mem_append.1 hz with hz | hz; exact hok z hz; rw [List.mem_singleton] at hz; subst hz; exact hx⟩
            have HY : Hid (rs = (pre ++ [x]).flatten ++ y) := by show _ = _; rw [HRS.out, hxy]; simp
            have HYL : Hid ((bytesOf y).size < n) := by
              show _ < _
              rw [bytesOf_size]
              have e1 := HN.out
              rw [HS.out, bytesOf_size] at e1
              omega
            obtain ⟨fn, tmps, assign, body, hyy, hRd⟩ := hR pre x wr hjp hSp
            have HSP : Hid _ := hSp
            rw [← hc1] at hyy
            clear hxy hx hSp hc1 hyl hedge
            gi_wp2_with (first | (refine ⟨rfl, ?_⟩; gi_at_call 137; refine (callsIn_wide.2 (cR _)).mono ?_; rintro e wx ⟨rfl, hwx⟩; obtain rfl := hwx.symm) | (refine ⟨trivial, ?_⟩))
            first | refine hRd.mono ?_ | refine ⟨rfl, hRd.mono ?_⟩
            rintro e A' (⟨rfl, hj', hk1, hk2⟩ | ⟨rfl, hjx', _⟩)
            · have hcA : A'.cell? ⟨sb, 0, none⟩ = some (.string S) := (World.cell?_of_block (w := wr) (a := ⟨sb, 0, none⟩) hk2).trans hc
              have hfA : A'.frozen? ⟨sb, 0, none⟩ = false := (World.frozen?_of_block (w := wr) (a := ⟨sb, 0, none⟩) hk2).trans hf
              have HC2 : Hid _ := hc2
              have hsA := Nat.le_trans hs hk1
              have HM : Hid (leftAt sb wr = n) := (leftAt_eq hc).trans hn'
              clear hc hf hk2 hyy hRd hjp hc2
              gi_wp2
              have hc9 : (A'.setCell ⟨sb, 0, none⟩ (.string (S.extract j n))).cell? ⟨sb, 0, none⟩ = some (.string (bytesOf y)) := by
                rw [HC2.out]
                exact World.cell?_setCell_same' _ _ _ (by rw [hcA]; rfl)
              go_roundw
              case rel => exact ⟨pre ++ [x], y, HY.out, HSP.out.2, hc9, (by rw [World.frozen?_setCell]; exact hfA), (by simpa [World.setCell] using hsA), hJ _ _ _ hj' ⟨⟨_, rfl⟩, hsA⟩⟩
              case measure =>
                show leftAt sb _ < leftAt sb _
                rw [HM.out, leftAt_eq hc9]
                exact HYL.out
            · gi_wp2
              refine bodyPost_ret (results_none rfl _ _ _) rfl ?_
              exact ⟨⟨_, rfl⟩, .inr ⟨pre ++ [x], HSP.out, hjx'⟩⟩
          · have hne2 : j ≠ f := fun e => hb (HST2.out j _ (e ▸ HFE.out) hb?)
            have hb' : Lib.runeStart (S[j].toNat : Int) = false := Bool.eq_false_iff.2 hb
            rw [hb'] at cR
            clear hb hb' hb?
            gi_wp2_with (first | (refine ⟨rfl, ?_⟩; gi_at_call 137; refine (callsIn_wide.2 (cR _)).mono ?_; rintro e wx ⟨rfl, hwx⟩; obtain rfl := hwx.symm) | (refine ⟨trivial, ?_⟩))
            go_round
            case rel => exact ⟨j - 1, by rw [show ((j - 1 : Nat) : Int) = (j : Int) - 1 by omega], by omega, by omega, by omega⟩
            case measure => simp [intOf]; omega
        · have hjn : n = j := by omega
          subst hjn
          have hedge : edgeAt rest n := HEND.out
          obtain ⟨x, y, hxy, hx, hc1, hc2, hyl⟩ := HCUT.out n hedge (by omega) hj3
          have hSp : (∃ rest', rs = (pre ++ [x]).flatten ++ rest') ∧ ∀ z ∈ pre ++ [x], okChunk z := ⟨⟨y, by rw [HRS.out, hxy]; simp⟩, fun z hz => by rcases List.mem_append.1 hz with hz | hz; exact hok z hz; rw [List.mem_singleton] at hz; subst hz; exact hx⟩
          have HY : Hid (rs = (pre ++ [x]).flatten ++ y) := by show _ = _; rw [HRS.out, hxy]; simp
          have HYL : Hid ((bytesOf y).size < n) := by
            show _ < _
            rw [bytesOf_size]
            have e1 := HN.out
            rw [HS.out, bytesOf_size] at e1
            omega
          obtain ⟨fn, tmps, assign, body, hyy, hRd⟩ := hR pre x wr hjp hSp
          have HSP : Hid _ := hSp
          rw [← hc1] at hyy
          clear hxy hx hSp hc1 hyl hedge
          gi_wp2_with (refine ⟨trivial, ?_⟩)
          first | refine hRd.mono ?_ | refine ⟨rfl, hRd.mono ?_⟩
          rintro e A' (⟨rfl, hj', hk1, hk2⟩ | ⟨rfl, hjx', _⟩)
          · have hcA : A'.cell? ⟨sb, 0, none⟩ = some (.string S) := (World.cell?_of_block (w := wr) (a := ⟨sb, 0, none⟩) hk2).trans hc
            have hfA : A'.frozen? ⟨sb, 0, none⟩ = false := (World.frozen?_of_block (w := wr) (a := ⟨sb, 0, none⟩) hk2).trans hf
            have HC2 : Hid (ByteArray.empty = bytesOf y) := by show _ = _; rw [← hc2]; simp
            have hsA := Nat.le_trans hs hk1
            have HM : Hid (leftAt sb wr = n) := (leftAt_eq hc).trans hn'
            clear hc hf hk2 hyy hRd hjp hc2
            gi_wp2
            have hc9 : (A'.setCell ⟨sb, 0, none⟩ (.string ByteArray.empty)).cell? ⟨sb, 0, none⟩ = some (.string (bytesOf y)) := by
              rw [HC2.out]
              exact World.cell?_setCell_same' _ _ _ (by rw [hcA]; rfl)
            go_roundw
            case rel => exact ⟨pre ++ [x], y, HY.out, HSP.out.2, hc9, (by rw [World.frozen?_setCell]; exact hfA), (by simpa [World.setCell] using hsA), hJ _ _ _ hj' ⟨⟨_, rfl⟩, hsA⟩⟩
            case measure =>
              show leftAt sb _ < leftAt sb _
              rw [HM.out, leftAt_eq hc9]
              exact HYL.out
          · gi_wp2
            refine bodyPost_ret (results_none rfl _ _ _) rfl ?_
            exact ⟨⟨_, rfl⟩, .inr ⟨pre ++ [x], HSP.out, hjx'⟩⟩
end Go.Proofs.YtldhbjmillfjgabGreatDoor
