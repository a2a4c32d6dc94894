/-
  The server's readers: done, Rev, Text, Last, size.
-/
import Derived.Test.YtedgnlgjmnccgabGreatDoorSrvMem
import Derived.Test.YtedgnlgjmnccgabGreatDoorOpsLens
namespace Go.Proofs.YtedgnlgjmnccgabGreatDoor
open Go.RowKit Go.Maps
set_option linter.unusedVariables false
attribute [local go_sem] Oper.semAt_some

theorem srvDone_any (lo n : Nat) (w : World) (b bm : Nat) (t : List UInt8) (E : List SE) (M : Told) (h : isSrv lo n w b bm t E M) :
    Calls Tryz.prog 115 #[.pointer (some ⟨b, 0, none⟩)] w fun e w' => w' = w ∧ ∃ v1, e = .returned v1 ∧ w.cell? ⟨b, 1, none⟩ = some v1 ∧ isLog 105 lo lo w v1 E := by
  obtain ⟨_, _, ⟨v1, h3, h4⟩, _⟩ := h
  obtain ⟨p, c, rfl⟩ := isLog_shape h4
  have x1 : w.cell? ⟨b, 1, none⟩ = some (.slice p E.length c) := Lib.cell_of_heap h3 1
  have H4 : Hid _ := h4
  clear h3 h4
  go_enter Tryz.func115, Tryz.ntmps115
  go_wp2
  go_ret
  exact ⟨rfl, _, rfl, x1, H4.out⟩
theorem srvRev_any (lo n : Nat) (w : World) (b bm : Nat) (t : List UInt8) (E : List SE) (M : Told) (h : isSrv lo n w b bm t E M) :
    Calls Tryz.prog 41 #[.pointer (some ⟨b, 0, none⟩)] w fun e w' => w' = w ∧ e = .returned (.int .i64 E.length) := by
  have C : Hid _ := srvDone_any lo n w b bm t E M h
  clear h
  go_enter Tryz.func41, Tryz.ntmps41
  go_wp2_with (first | (go_at_call 115; refine Calls.mono C.out ?_; rintro e w1 ⟨hw, v1, rfl, hc, hl⟩; obtain rfl := hw.symm; obtain ⟨p, c, rfl⟩ := isLog_shape hl; clear hc hl) | fail)
  go_ret
  exact ⟨rfl, rfl⟩
theorem srvText_any (lo n : Nat) (w : World) (b bm : Nat) (t : List UInt8) (E : List SE) (M : Told) (h : isSrv lo n w b bm t E M) :
    Calls Tryz.prog 42 #[.pointer (some ⟨b, 0, none⟩)] w fun e w' => w' = w ∧ e = .returned (.string ⟨t.toArray⟩) := by
  obtain ⟨_, _, ⟨v1, h3, h4⟩, _⟩ := h
  have x1 : w.cell? ⟨b, 0, none⟩ = some (.string ⟨t.toArray⟩) := Lib.cell_of_heap h3 0
  clear h3 h4
  go_enter Tryz.func42, Tryz.ntmps42
  go_wp2
  go_ret
  exact ⟨rfl, rfl⟩
theorem run_ti {P : Program} {w : World} {t : TypeId} {i : TypeInfo} (h : P.info? t = some i) : (typeInfo t).run P w = .ok i w := by simp [typeInfo, h]
theorem run_zero {P : Program} {w : World} {t : TypeId} {i : TypeInfo} {z : Value} (h : P.info? t = some i) (hz : i.zero = some z) : (zeroValue t).run P w = .ok z w := by
  simp [zeroValue, Sem.run_bind, run_ti h, hz]
theorem zero_of {t : TypeId} {z : Value} (h : (Tryz.prog.info? t).map (·.zero) = some (some z)) (w : World) : (zeroValue t).run Tryz.prog w = .ok z w := by
  obtain ⟨i, hi, hz⟩ := Option.map_eq_some_iff.1 h
  exact run_zero hi hz
theorem info_told : (Tryz.prog.info? 198).map (·.zero) = some (some (.agg #[.int .i64 0, .int .i64 0])) := by kernel_rfl
theorem toldZero (w : World) : (zeroValue 198).run Tryz.prog w = .ok (.agg #[.int .i64 0, .int .i64 0]) w := zero_of info_told w
theorem srvSize_any (lo n : Nat) (w : World) (b bm : Nat) (t : List UInt8) (E : List SE) (M : Told) (h : isSrv lo n w b bm t E M) {l0 : Int} (hk : okS l0 t E) (k : Nat) (hkl : k ≤ E.length) (hn : E.length ≤ 1000) :
    Calls Tryz.prog 177 #[.pointer (some ⟨b, 0, none⟩), .int .i64 k] w fun e w' => e = .returned (.int .i64 (endE l0 (E.take k))) ∧ Below w.heap.size w w' := by
  obtain ⟨_, _, ⟨v1, h3, h4⟩, _⟩ := h
  obtain ⟨p, c, rfl⟩ := isLog_shape h4
  have x0 : w.cell? ⟨b, 0, none⟩ = some (.string ⟨t.toArray⟩) := Lib.cell_of_heap h3 0
  have x1 : w.cell? ⟨b, 1, none⟩ = some (.slice p E.length c) := Lib.cell_of_heap h3 1
  by_cases he : k = E.length
  · have hz : (ByteArray.mk t.toArray).size = t.length := by simp [ByteArray.size]
    have hv : endE l0 (E.take k) = t.length := by rw [he, List.take_length]; exact hk.last
    rw [hv]
    subst he
    clear h3 h4 hk hv hkl
    go_enter Tryz.func177, Tryz.ntmps177
    go_wp2
    go_ret
    exact ⟨rfl, Below.refl _ _⟩
  · have hlt : k < E.length := by omega
    have hne : E ≠ [] := by intro e; rw [e] at hlt; exact absurd hlt (Nat.not_lt_zero _)
    obtain ⟨g, rfl, hg, _, _, _, hcell⟩ := isLog_at h4 hne
    obtain ⟨ve, _, _, f2, f3⟩ := hcell k E[k] (List.getElem?_eq_getElem hlt)
    obtain ⟨t1, t2, t3, t4, t5⟩ := chain_at E l0 k hlt hk.chain hk.top
    have hb1 : endE l0 (E.take k) + putsP E[k].op < 1000000 := by omega
    have hle := (t2.fine hb1).len
    have CL : Hid _ := Lens_any ve E[k].op w f3.1 hle
    have HV : Hid ((lensW E[k].op).1 = endE l0 (E.take k)) := t2.lens hb1
    have hsh : ∃ p c, ve = .slice p E[k].op.length c := by obtain ⟨p, c, e, _⟩ := f3.1; exact ⟨p, c, e⟩
    obtain ⟨pe, ce, rfl⟩ := hsh
    have hki : ((k : Int) == (E.length : Int)) = false := by simp; omega
    have hki2 : (k : Int) < (E.length : Int) := by omega
    generalize endE l0 (E.take k) = R at *
    generalize E[k] = x at *
    generalize E.length = n at *
    clear h3 h4 hk hcell t1 t2 t3 t4 t5 hb1 f3 hne
    go_enter Tryz.func177, Tryz.ntmps177
    go_wp2_with (first
      | (go_at_call 120; refine Calls.mono CL.out ?_; rintro e w1 ⟨rfl, hb1⟩; have HB1 : Hid (Below w.heap.size w w1) := hb1; clear hb1)
      | fail)
    go_ret
    refine ⟨?_, HB1.out⟩
    have := HV.out
    first | rfl | (simp; done) | (rw [← this]; rfl) | (subst this; rfl)
end Go.Proofs.YtedgnlgjmnccgabGreatDoor
