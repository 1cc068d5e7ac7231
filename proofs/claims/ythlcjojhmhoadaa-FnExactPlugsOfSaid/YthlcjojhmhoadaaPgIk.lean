/-
  The program's mostPlugged, and the closure in it that calls itself.
-/
import Derived.Test.YthlcjojhmhoadaaPgIa
import Derived.Test.YthlcjojhmhoadaaPgIr
import Derived.Laws.Tables
import Derived.Deep.QuietTactic
import Derived.BigQuiet
import Derived.Deep.RegionWith
namespace Go.Proofs.Ythlcjojhmhoadaa
open Go.RowKit
set_option linter.unusedVariables false

/-- What the closure's variables hold: the uses, which plugs were asked for (A), at which box each plug is (P), and the closure itself. -/
structure KSt (bu ba bt bg gt : Nat) (vu : Value) (w : World) (A : List Bool) (P : List Int) : Prop where
  hu : w.heap[bu]? = some (.cells #[vu] 23 (0, 0))
  ha : w.heap[ba]? = some (.cells (A.map Value.bool).toArray 57 (0, 0))
  ht : w.heap[bt]? = some (.cells #[.slice (some ⟨gt, 0, none⟩) 6 6] 27 (0, 0))
  hg : w.heap[bg]? = some (.cells #[.func (.func 60) #[] #[.pointer (some ⟨bu, 0, none⟩), .pointer (some ⟨ba, 0, none⟩), .pointer (some ⟨bt, 0, none⟩), .pointer (some ⟨bg, 0, none⟩)]] 50 (0, 0))
  hp : w.heap[gt]? = some (.cells (P.map (Value.int .i64)).toArray 3 (0, 0))
  la : A.length = 6
  lp : P.length = 6
section
variable {bu ba bt bg gt : Nat} {vu : Value} {w w' : World} {A : List Bool} {P : List Int}
theorem KSt.same (h : KSt bu ba bt bg gt vu w A P) (hh : w'.heap = w.heap) : KSt bu ba bt bg gt vu w' A P := by
  obtain ⟨h1, h2, h3, h4, h5, h6, h7⟩ := h
  rw [← hh] at h1 h2 h3 h4 h5
  exact ⟨h1, h2, h3, h4, h5, h6, h7⟩
theorem KSt.drew (h : KSt bu ba bt bg gt vu w A P) : KSt bu ba bt bg gt vu w.drew A P := h.same rfl
theorem KSt.cu (h : KSt bu ba bt bg gt vu w A P) : w.cell? ⟨bu, 0, none⟩ = some vu := by
  have := h.hu
  simp only [World.cell?, this]; rfl
theorem KSt.ct (h : KSt bu ba bt bg gt vu w A P) : w.cell? ⟨bt, 0, none⟩ = some (.slice (some ⟨gt, 0, none⟩) 6 6) := by
  have := h.ht
  simp only [World.cell?, this]; rfl
theorem KSt.cg (h : KSt bu ba bt bg gt vu w A P) : w.cell? ⟨bg, 0, none⟩ = some (.func (.func 60) #[] #[.pointer (some ⟨bu, 0, none⟩), .pointer (some ⟨ba, 0, none⟩), .pointer (some ⟨bt, 0, none⟩), .pointer (some ⟨bg, 0, none⟩)]) := by
  have := h.hg
  simp only [World.cell?, this]; rfl
theorem KSt.ca (h : KSt bu ba bt bg gt vu w A P) {q : Nat} (hq : q < 6) : w.cell? ⟨ba, q, none⟩ = some (.bool (A.getD q false)) := by
  have h1 := h.ha
  have hl := h.la
  simp only [World.cell?, h1]
  show (A.map Value.bool).toArray[q]? = _
  rw [List.getElem?_toArray, List.getElem?_map, List.getD_eq_getElem?_getD, List.getElem?_eq_getElem (by omega)]
  rfl
theorem KSt.cp (h : KSt bu ba bt bg gt vu w A P) {q : Nat} (hq : q < 6) : w.cell? ⟨gt, q, none⟩ = some (.int .i64 (P.getD q 0)) := by
  have h1 := h.hp
  have hl := h.lp
  simp only [World.cell?, h1]
  show (P.map (Value.int .i64)).toArray[q]? = _
  rw [List.getElem?_toArray, List.getElem?_map, List.getD_eq_getElem?_getD, List.getElem?_eq_getElem (by omega)]
  rfl
theorem KSt.fa (h : KSt bu ba bt bg gt vu w A P) (q : Nat) : w.frozen? ⟨ba, q, none⟩ = false := by
  have := h.ha
  simp [World.frozen?, this]
theorem KSt.fp (h : KSt bu ba bt bg gt vu w A P) (q : Nat) : w.frozen? ⟨gt, q, none⟩ = false := by
  have := h.hp
  simp [World.frozen?, this]
theorem heap_ne {a b : Nat} {c d : Array Value} {s t : TypeId} (ha : w.heap[a]? = some (.cells c s (0, 0))) (hb : w.heap[b]? = some (.cells d t (0, 0))) (hst : s ≠ t) : a ≠ b := fun e => by
  rw [e, hb] at ha
  simp only [Option.some.injEq, Obj.cells.injEq] at ha
  exact hst ha.2.1.symm
theorem map_putB (A : List Bool) (q : Nat) (b : Bool) : ((A.map Value.bool).toArray.setIfInBounds q (.bool b)) = ((A.set q b).map Value.bool).toArray := by
  apply Array.ext'
  simp [List.map_set]
theorem map_putI (A : List Int) (q : Nat) (b : Int) : ((A.map (Value.int .i64)).toArray.setIfInBounds q (.int .i64 b)) = ((A.set q b).map (Value.int .i64)).toArray := by
  apply Array.ext'
  simp [List.map_set]
/-- A plug is asked for. -/
theorem KSt.ask (h : KSt bu ba bt bg gt vu w A P) (q : Nat) (b : Bool) : KSt bu ba bt bg gt vu (w.setCell ⟨ba, q, none⟩ (.bool b)) (A.set q b) P := by
  have far : ∀ (k : Nat) (c : Array Value) (t : TypeId), w.heap[k]? = some (.cells c t (0, 0)) → 57 ≠ t → (w.setCell ⟨ba, q, none⟩ (.bool b)).heap[k]? = some (.cells c t (0, 0)) := fun k c t hk hn => by
    rw [Below.heap_setCell _ _ _ _ (fun e => heap_ne h.ha hk hn e.symm)]; exact hk
  refine ⟨far _ _ _ h.hu (by decide), ?_, far _ _ _ h.ht (by decide), far _ _ _ h.hg (by decide), far _ _ _ h.hp (by decide), by rw [List.length_set]; exact h.la, h.lp⟩
  rw [← map_putB]
  exact Joins.block_setCell h.ha (i := q) (.bool b)
/-- A box is laid at a plug. -/
theorem KSt.put (h : KSt bu ba bt bg gt vu w A P) (q : Nat) (x : Int) : KSt bu ba bt bg gt vu (w.setCell ⟨gt, q, none⟩ (.int .i64 x)) A (P.set q x) := by
  have far : ∀ (k : Nat) (c : Array Value) (t : TypeId), w.heap[k]? = some (.cells c t (0, 0)) → 3 ≠ t → (w.setCell ⟨gt, q, none⟩ (.int .i64 x)).heap[k]? = some (.cells c t (0, 0)) := fun k c t hk hn => by
    rw [Below.heap_setCell _ _ _ _ (fun e => heap_ne h.hp hk hn e.symm)]; exact hk
  refine ⟨far _ _ _ h.hu (by decide), far _ _ _ h.ha (by decide), far _ _ _ h.ht (by decide), far _ _ _ h.hg (by decide), ?_, h.la, by rw [List.length_set]; exact h.lp⟩
  rw [← map_putI]
  exact Joins.block_setCell h.hp (i := q) (.int .i64 x)
end
/-- No plug was asked for any more. -/
theorem KSt.reset {bu ba bt bg gt : Nat} {vu : Value} {w : World} {A : List Bool} {P : List Int} (h : KSt bu ba bt bg gt vu w A P) : KSt bu ba bt bg gt vu (w.setRow ba #[.bool false, .bool false, .bool false, .bool false, .bool false, .bool false]) (List.replicate 6 false) P := by
  have far : ∀ (k : Nat) (c : Array Value) (t : TypeId), w.heap[k]? = some (.cells c t (0, 0)) → 57 ≠ t → (w.setRow ba #[.bool false, .bool false, .bool false, .bool false, .bool false, .bool false]).heap[k]? = some (.cells c t (0, 0)) := fun k c t hk hn => by
    rw [setRow_other w ba k _ (fun e => heap_ne h.ha hk hn e.symm)]; exact hk
  exact ⟨far _ _ _ h.hu (by decide), setRow_heap w ba _ _ _ _ h.ha, far _ _ _ h.ht (by decide), far _ _ _ h.hg (by decide), far _ _ _ h.hp (by decide), rfl, h.lp⟩
/-- As the variables are laid. -/
theorem KSt.laid {b gt : Nat} {vu : Value} {w : World} (hb : w.heap[b]? = some (.cells #[vu] 23 (0, 0))) (hg : w.heap[gt]? = some (.cells (List.replicate 6 (Value.int .i64 (-1))).toArray 3 (0, 0))) :
    KSt b (w.heap.size + 1) w.heap.size (w.heap.size + 1 + 1) gt vu (((w.alloc (.cells #[.slice (some ⟨gt, 0, none⟩) 6 6] 27)).alloc (.cells #[.bool false, .bool false, .bool false, .bool false, .bool false, .bool false] 57)).alloc (.cells #[.func (.func 60) #[] #[.pointer (some ⟨b, 0, none⟩), .pointer (some ⟨w.heap.size + 1, 0, none⟩), .pointer (some ⟨w.heap.size, 0, none⟩), .pointer (some ⟨w.heap.size + 1 + 1, 0, none⟩)]] 50)) (List.replicate 6 false) (List.replicate 6 (-1)) := by
  have l1 := free_lt hb
  have l2 := free_lt hg
  obtain ⟨a1, h1⟩ : ∃ a, a = Obj.cells #[.slice (some ⟨gt, 0, none⟩) 6 6] 27 (0, 0) := ⟨_, rfl⟩
  obtain ⟨a2, h2⟩ : ∃ a, a = Obj.cells #[.bool false, .bool false, .bool false, .bool false, .bool false, .bool false] 57 (0, 0) := ⟨_, rfl⟩
  obtain ⟨a3, h3⟩ : ∃ a, a = Obj.cells #[.func (.func 60) #[] #[.pointer (some ⟨b, 0, none⟩), .pointer (some ⟨w.heap.size + 1, 0, none⟩), .pointer (some ⟨w.heap.size, 0, none⟩), .pointer (some ⟨w.heap.size + 1 + 1, 0, none⟩)]] 50 (0, 0) := ⟨_, rfl⟩
  rw [← h1, ← h2, ← h3]
  have z1 : (w.alloc a1).heap.size = w.heap.size + 1 := by simp
  have z2 : ((w.alloc a1).alloc a2).heap.size = w.heap.size + 1 + 1 := by simp
  have b1 : Below w.heap.size w (((w.alloc a1).alloc a2).alloc a3) := (((Below.refl _ _).alloc (Nat.le_refl _) _).alloc (by simp) _).alloc (by simp; omega) _
  have b2 : Below (w.alloc a1).heap.size (w.alloc a1) (((w.alloc a1).alloc a2).alloc a3) := ((Below.refl _ _).alloc (Nat.le_refl _) _).alloc (by simp) _
  have b3 : Below ((w.alloc a1).alloc a2).heap.size ((w.alloc a1).alloc a2) (((w.alloc a1).alloc a2).alloc a3) := (Below.refl _ _).alloc (Nat.le_refl _) _
  refine ⟨(b1.block _ l1).trans hb, ?_, ?_, ?_, (b1.block _ l2).trans hg, rfl, rfl⟩
  · rw [b3.block (w.heap.size + 1) (by omega)]
    have := heap_alloc_new (w.alloc a1) a2
    rw [z1] at this
    rw [this, h2]; rfl
  · rw [b2.block w.heap.size (by omega)]
    rw [heap_alloc_new w a1, h1]
  · have := heap_alloc_new ((w.alloc a1).alloc a2) a3
    rw [z2] at this
    rw [this, h3]
/-- A plug of a valid use. -/
theorem use_at {u : List (List Int)} {k j : Nat} (hu : usesOk u = true) (hk : k < u.length) (hj : j < (useA u k).length) : ∃ q : Nat, q < 6 ∧ (useA u k).getD j 0 = (q : Int) := by
  have := ((usesOk_iff.1 hu).2 k hk j hj).1
  exact ⟨((useA u k).getD j 0).toNat, by omega, by omega⟩
set_option maxRecDepth 10000 in
set_option maxHeartbeats 4000000 in
theorem give_any (bu ba bt bg gt : Nat) (vu : Value) (u : List (List Int)) (w0 : World) (hU : HoldsY w0 vu u) (hok : usesOk u = true) (hba : w0.heap.size ≤ ba) (hgt : w0.heap.size ≤ gt) : ∀ (m x : Nat) (A : List Bool) (P : List Int) (w : World), notA A < m → x < u.length → AtOk u.length P → KSt bu ba bt bg gt vu w A P → Below w0.heap.size w0 w →
    Calls Try.prog 60 #[.int .i64 (x : Int), .pointer (some ⟨bu, 0, none⟩), .pointer (some ⟨ba, 0, none⟩), .pointer (some ⟨bt, 0, none⟩), .pointer (some ⟨bg, 0, none⟩)] w fun e w' => ∃ b A' P', e = .returned (.bool b) ∧ GiveR u u.length x A P b A' P' ∧ KSt bu ba bt bg gt vu w' A' P' ∧ Below w0.heap.size w0 w' := by
  intro m
  induction m with
  | zero => intro x A P w hm; omega
  | succ m ih =>
    intro x A P w hm hx hP hK hB
    have IH := Lib.hid ih
    have HU := Lib.hid fun (w' : World) (hs : Below w0.heap.size w0 w') => hU.keep hs
    have HUA := Lib.hid fun j (hj : j < (useA u x).length) => use_at hok hx hj
    have HPO := Lib.hid hP
    have hl6 : u.length ≤ 6 := (usesOk_iff.1 hok).1
    obtain ⟨a, c, rfl⟩ : ∃ a c, vu = .slice a u.length c := by obtain ⟨a, c, e, _⟩ := hU; exact ⟨a, c, e⟩
    obtain ⟨ub, uo, xa, xc, rfl, hubl, s0', hl1, hl2', -, hrow⟩ := hU.at_ hx
    have S0 := Lib.hid fun (w' : World) (hs : Below w0.heap.size w0 w') => (hs.cell (p := ⟨ub, uo + x, none⟩) hubl).trans s0'
    have HRW := Lib.hid fun (w' : World) (hs : Below w0.heap.size w0 w') => hrow.keep hs
    have eR : rowAt u x = useA u x := rfl
    rw [eR] at S0 HRW hl1
    have WS := Lib.hid (WayR.start (u := u) (n := u.length) (x := x) (T := P) hK.la)
    have WSKIP := Lib.hid fun j B (h : WayR u u.length x A P j B) hb => h.skip hb
    have WFREE := Lib.hid fun j q B (h : WayR u u.length x A P j B) (hj : j < (useA u x).length) => h.free (q := q) hP hx hj
    have WLEFT := Lib.hid fun j q B B' P' (h : WayR u u.length x A P j B) (hj : j < (useA u x).length) => h.left (q := q) (B' := B') (T' := P') hP hx hj
    have WSTAY := Lib.hid fun j q B B' P' (h : WayR u u.length x A P j B) => h.stay (q := q) (B' := B') (T' := P')
    have WNONE := Lib.hid fun B (h : WayR u u.length x A P (useA u x).length B) => h.none hP
    have NA := Lib.hid fun B j q (h : WayR u u.length x A P j B) (hq : q < 6) (hb : B.getD q false = false) => (show notA (B.set q true) < m from by
      have h1 := notA_put B q (by rw [h.len]; exact hq) hb
      have h2 := notA_mono A B (by rw [h.len]; exact hK.la) h.mono
      omega)
    have PCASE := Lib.hid fun q (hq : q < 6) => (show P.getD q 0 < 0 ∨ ∃ k : Nat, P.getD q 0 = (k : Int) ∧ k < u.length from by
      rcases hP.2 q hq with h | ⟨h1, h2⟩
      · exact .inl (by omega)
      · exact .inr ⟨(P.getD q 0).toNat, by omega, by omega⟩)
    obtain ⟨l, hl⟩ : ∃ l, l = useA u x := ⟨_, rfl⟩
    rw [← hl] at S0 HRW HUA WSKIP WFREE WLEFT WSTAY WNONE hl1
    have s0 := S0.out w hB
    have y0 := hK.cu
    have ix : (x : Int) < (u.length : Int) := by omega
    have i0x : (0 : Int) ≤ (x : Int) := by omega
    have KA := Lib.hid hK
    have BA := Lib.hid hB
    have hm' : l.length ≤ 9223372036854775807 := by omega
    obtain ⟨n, hn⟩ : ∃ n, n = l.length := ⟨_, rfl⟩
    rw [← hn] at s0 HRW HUA WFREE WLEFT WNONE hl1 hm'
    clear ih hU hK hB hP hrow s0' eR S0 HU hl hn hm hl2' hubl
    go_enter Try.func60, Try.ntmps60
    go_wp2_with fail
    go_loopw [14] (fun i wr => ∃ (j : Nat) (B : List Bool), j ≤ n ∧ i = .int .i64 j ∧ Hid (KSt bu ba bt bg gt (.slice (some ⟨ub, uo, none⟩) u.length c) wr B P) ∧ Hid (WayR u u.length x A P j B) ∧ Hid (Below w0.heap.size w0 wr)) (fun i _ => n - (intOf i).toNat)
    case atStart => exact ⟨0, A, by omega, rfl, KA, WS, BA⟩
    case round =>
      clear KA BA WS s0 y0
      obtain ⟨j, B, hjn, rfl, KB, WB, BR⟩ := hrel
      by_cases hlt : j < n
      · obtain ⟨q, hq6, hqe⟩ := HUA.out j hlt
        obtain ⟨xb, xo, rfl, hxbl, t0⟩ := (HRW.out wr BR.out).at_ hlt
        rw [hqe] at t0
        have ij : (j : Int) < (n : Int) := by omega
        have i0j : (0 : Int) ≤ (j : Int) := by omega
        have iq : (q : Int) < 6 := by omega
        have i0q : (0 : Int) ≤ (q : Int) := by omega
        have a0 := KB.out.ca hq6
        have fa := KB.out.fa q
        have HQE := Lib.hid hqe
        clear hqe
        cases hb : B.getD q false
        · rw [hb] at a0
          have HBQ := Lib.hid hb
          have hk1 := KB.out.ask q true
          have hb1 : Below w0.heap.size w0 (wr.setCell ⟨ba, q, none⟩ (.bool true)) := Below.setCell BR.out (p := ⟨ba, q, none⟩) hba _
          have NAq := Lib.hid (NA.out B j q WB.out hq6 hb)
          obtain ⟨W1, hW1⟩ : ∃ W1, W1 = wr.setCell ⟨ba, q, none⟩ (.bool true) := ⟨_, rfl⟩
          rw [← hW1] at hk1 hb1
          have HW := Lib.hid hW1
          have KW := Lib.hid hk1
          have BW := Lib.hid hb1
          rcases PCASE.out q hq6 with hneg | ⟨k, hke, hkn⟩
          · have GF := Lib.hid (WFREE.out j q B WB.out hlt HQE.out hq6 hb hneg)
            have c0 := hk1.ct
            have c1 := hk1.cp hq6
            have fp := hk1.fp q
            obtain ⟨p, hp⟩ : ∃ p, p = P.getD q 0 := ⟨_, rfl⟩
            rw [← hp] at c1 hneg
            clear hW1 hk1 hb1 hb hp
            go_wp2_with fail
            rw [← HW.out]
            go_quiet (fail)
            go_wp2_with fail
            go_ret
            exact ⟨true, _, _, rfl, GF.out, (KW.out.same (w' := W1.drewN _) (by simp)).put q _, Below.setCell (belowP_drewN BW.out _) (p := ⟨gt, q, none⟩) hgt _⟩
          · have hk0 := hk1.drew
            have HI := Lib.hid (IH.out k (B.set q true) P W1.drew NAq.out hkn HPO.out hk0 BW.out.drew)
            have HKE := Lib.hid hke
            have c0 := hk0.ct
            have c1 := hk0.cp hq6
            have c2 := hk0.cg
            rw [hke] at c1
            have k0 : ¬ (k : Int) < 0 := by omega
            have kd : decide ((k : Int) < 0) = false := decide_eq_false k0
            have k00 : (0 : Int) ≤ P.getD q 0 := by rw [HKE.out]; omega
            have k01 : (P.getD q 0).toNat = k := by rw [HKE.out, Int.toNat_natCast]
            have GL := Lib.hid fun A4 P4 (g : GiveR u u.length k (B.set q true) P true A4 P4) => WLEFT.out j q B A4 P4 WB.out hlt HQE.out hq6 HBQ.out k00 (by rw [k01]; exact g)
            have GS := Lib.hid fun A4 P4 (g : GiveR u u.length k (B.set q true) P false A4 P4) => WSTAY.out j q B A4 P4 WB.out HQE.out hq6 HBQ.out k00 (by rw [k01]; exact g)
            clear hW1 hk1 hb1 hk0 hke k00 k01
            go_wp2_with fail
            rw [← HW.out]
            go_region_with (first
              | (go_at_call 60; (with_reducible refine HI.out.mono ?_); rintro e w4 ⟨b, A4, P4, rfl, G4, K4, B4⟩)
              | fail)
            all_goals
              have K5 := Lib.hid K4
              have B5 := Lib.hid B4
              clear K4 B4
              cases b
              · obtain ⟨rfl, WS2⟩ := GS.out A4 P4 G4
                have WN := Lib.hid WS2
                clear WS2 G4
                go_simp
                go_wp2_with fail
                go_roundw
                case rel => exact ⟨j + 1, A4, by omega, by go_num, K5, WN, B5⟩
                case measure => simp [intOf]; omega
              · have GF := Lib.hid (GL.out A4 P4 G4)
                have d0 := K5.out.ct
                have fp := K5.out.fp q
                have d1 := K5.out.cp hq6
                clear G4
                go_simp
                go_wp2_with fail
                go_ret
                exact ⟨true, _, _, rfl, GF.out, K5.out.put q _, Below.setCell B5.out (p := ⟨gt, q, none⟩) hgt _⟩
        · rw [hb] at a0
          have WN := Lib.hid (WSKIP.out j B WB.out (by rw [HQE.out, Int.toNat_natCast]; exact hb))
          clear hb
          go_wp2_with fail
          go_roundw
          case rel => exact ⟨j + 1, B, by omega, by go_num, KB, WN, BR⟩
          case measure => simp [intOf]; omega
      · obtain rfl : j = n := by omega
        have WN := Lib.hid (WNONE.out B WB.out)
        go_wp2_with fail
        go_ret
        exact ⟨false, B, P, rfl, WN.out, KB.out, BR.out⟩
set_option maxRecDepth 10000 in
set_option maxHeartbeats 4000000 in
theorem mostPlugged_any (vu : Value) (u : List (List Int)) (w : World) (hu : HoldsY w vu u) (hok : usesOk u = true) :
    Calls Try.prog 49 #[vu] w fun e w' => e = .returned (.int .i64 (plugM u)) ∧ Below w.heap.size w w' := by
  have hl6 : u.length ≤ 6 := (usesOk_iff.1 hok).1
  have HU := Lib.hid hu
  have hmf : ∀ (fn : Fn) (first cap : Array Value) (w : World), (Instr.makeFunc fn first cap).run Try.prog w = .ok (.func fn first cap) w := fun _ _ _ _ => rfl
  obtain ⟨a, c, rfl⟩ : ∃ a c, vu = .slice a u.length c := by obtain ⟨a, c, e, _⟩ := hu; exact ⟨a, c, e⟩
  obtain ⟨W1, hW1⟩ : ∃ W1, W1 = w.alloc (.cells #[.slice a u.length c] 23) := ⟨_, rfl⟩
  obtain ⟨W2, hW2⟩ : ∃ W2, W2 = W1.alloc (.cells #[.int .i64 (-1)] 3) := ⟨_, rfl⟩
  have hz1 : W1.heap.size = w.heap.size + 1 := by rw [hW1]; simp
  have hz2 : W2.heap.size = w.heap.size + 2 := by rw [hW2]; simp [hz1]
  have hbx : W1.heap[w.heap.size]? = some (.cells #[.slice a u.length c] 23 (0, 0)) := by rw [hW1]; exact heap_alloc_new _ _
  have hone : W2.cell? ⟨W1.heap.size, 0, none⟩ = some (.int .i64 (-1)) := by
    have : W2.heap[W1.heap.size]? = some (.cells #[.int .i64 (-1)] 3 (0, 0)) := by rw [hW2]; exact heap_alloc_new _ _
    simp only [World.cell?, this]; rfl
  have hrp := slRepeat_six W1.heap.size 1 (-1) W2 hone (by omega)
  rw [hz1, hz2] at hrp
  have HRP := Lib.hid hrp
  have HZ1 := Lib.hid hz1
  have HBX := Lib.hid hbx
  have hz2' := hz2
  have HB1 := Lib.hid (show Below w.heap.size w W1 by rw [hW1]; exact (Below.refl _ _).alloc (Nat.le_refl _) _)
  have HB2 := Lib.hid (show Below W1.heap.size W1 W2 by rw [hW2]; exact (Below.refl _ _).alloc (Nat.le_refl _) _)
  have HW1 := Lib.hid hW1
  have HW2 := Lib.hid hW2
  clear hu hW1 hW2 hrp hz1 hz2 hbx hone
  have hz2 : w.heap.size + 2 = W2.heap.size := hz2'.symm
  clear hz2'
  have HZ2 := Lib.hid hz2
  clear hz2
  go_enter Try.func49, Try.ntmps49
  go_wp2_with fail
  rw [← HW1.out, ← HW2.out]
  with_reducible refine HRP.out.mono ?_
  rintro e w5 ⟨rfl, hg5, b5⟩
  have hlu : W2.heap[w.heap.size]? = some (.cells #[.slice a u.length c] 23 (0, 0)) := (HB2.out.block w.heap.size (by rw [HZ1.out]; omega)).trans HBX.out
  have k8 := KSt.laid ((b5.block w.heap.size (by omega)).trans hlu) hg5
  have y0 := k8.cu
  have hgl := free_lt hg5
  have h5s : w.heap.size ≤ w5.heap.size := by omega
  have HB5 := Lib.hid (show Below w.heap.size w w5 from (HB1.out.trans (HB2.out.mono HB1.out.size)).trans (b5.mono (by omega)))
  obtain ⟨W8, hW8⟩ : ∃ W8, W8 = (((w5.alloc (.cells #[.slice (some ⟨w.heap.size + 2, 0, none⟩) 6 6] 27)).alloc (.cells #[.bool false, .bool false, .bool false, .bool false, .bool false, .bool false] 57)).alloc (.cells #[.func (.func 60) #[] #[.pointer (some ⟨w.heap.size, 0, none⟩), .pointer (some ⟨w5.heap.size + 1, 0, none⟩), .pointer (some ⟨w5.heap.size, 0, none⟩), .pointer (some ⟨w5.heap.size + 1 + 1, 0, none⟩)]] 50)) := ⟨_, rfl⟩
  have HB8 := Lib.hid (show Below w.heap.size w W8 by rw [hW8]; exact ((HB5.out.alloc h5s _).alloc (by simp; omega) _).alloc (by simp; omega) _)
  rw [← hW8] at k8
  have K8 := Lib.hid k8
  have HW8 := Lib.hid hW8
  have KD := Lib.hid fun m P (h : KuhnSt u u.length u.length P m) => h.done hok
  have KS := Lib.hid fun i m A P A' P' (h : KuhnSt u u.length i P m) hA (hg : GiveR u u.length i A P false A' P') (hi : i < u.length) => h.same (fun k hk => (usesOk_us hok k hk).2) hA hg hi
  have K0 := Lib.hid (KuhnSt.start u u.length)
  obtain ⟨z5, hz5⟩ : ∃ z, z = w5.heap.size := ⟨_, rfl⟩
  have HG := Lib.hid fun (m x : Nat) (A : List Bool) (P : List Int) (W : World) => give_any w.heap.size (z5 + 1) z5 (z5 + 1 + 1) (w.heap.size + 2) (.slice a u.length c) u w HU.out hok (by omega) (by omega) m x A P W
  rw [← hz5] at K8 h5s
  clear k8 hW8 b5 hg5 hlu HB5 HRP hgl
  have hsf : ∀ (fn : Fn) (first cap : Array Value) (x : Addr) (m : Mode) (W : World), (store x (.func fn first cap) m).run Try.prog W = stored Try.prog W x (.func fn first cap) m := fun _ _ _ _ _ _ => run_store _ _ _ _ _ rfl
  go_wp2_with fail
  rw [← HW8.out]
  rw [← hz5]
  clear y0 hz5
  go_loopw [6, 13] (fun va vi wr => ∃ (i m : Nat) (A : List Bool) (P : List Int), i ≤ u.length ∧ m ≤ i ∧ va = .int .i64 m ∧ vi = .int .i64 i ∧ Hid (KuhnSt u u.length i P m) ∧ Hid (KSt w.heap.size (z5 + 1) z5 (z5 + 1 + 1) (w.heap.size + 2) (.slice a u.length c) wr A P) ∧ Hid (Below w.heap.size w wr)) (fun _ i _ => u.length - (intOf i).toNat)
  case atStart => exact ⟨0, 0, _, _, by omega, by omega, rfl, rfl, K0, K8, HB8⟩
  case round =>
    clear K0 K8 HB8 HW8
    obtain ⟨i, m, A, P, hin, hmi, rfl, rfl, KU, KS1, BR⟩ := hrel
    by_cases hlt : i < u.length
    · have ii : (i : Int) < (u.length : Int) := by omega
      have i0i : (0 : Int) ≤ (i : Int) := by omega
      have KR := Lib.hid KS1.out.reset
      have BRR := Lib.hid (show Below w.heap.size w (wr.setRow (z5 + 1) #[.bool false, .bool false, .bool false, .bool false, .bool false, .bool false]) from below_setRow BR.out (by omega) _)
      have y1 := KR.out.cg
      have HGi := Lib.hid (HG.out 7 i _ P _ (by decide) hlt KU.out.ok KR.out BRR.out)
      have HA0 := Lib.hid KS1.out.ha
      have HAL := Lib.hid KS1.out.la
      go_wp2_with ((with_reducible show wpList _ _ _ _ _ _); refine wpList_store_row (by rfl) 57 (.tmp 4) (.tmp 16) (by rfl) (z5 + 1) #[.bool false, .bool false, .bool false, .bool false, .bool false, .bool false] (by rfl) (by rfl) 57 _ HA0.out (by kernel_rfl) (by simp [HAL.out]) (by simp [Value.oneCell']) ?_)
      with_reducible refine HGi.out.mono ?_
      rintro e w9 ⟨b, A9, P9, rfl, G9, K9, B9⟩
      have HK9 := Lib.hid K9
      have HB9 := Lib.hid B9
      clear K9 B9 y1 HGi KR BRR
      cases b
      · have KN := Lib.hid (KS.out i m _ P A9 P9 KU.out (fun q => by rw [List.getD_eq_getElem?_getD, List.getElem?_replicate]; split <;> rfl) G9 hlt)
        clear G9
        go_wp2_with fail
        go_roundw
        case rel => exact ⟨i + 1, m, A9, P9, by omega, by omega, rfl, by go_num, KN, HK9, HB9⟩
        case measure => simp [intOf]; omega
      · have KN := Lib.hid (KU.out.more G9 hlt)
        clear G9
        go_wp2_with fail
        go_roundw
        case rel => exact ⟨i + 1, m + 1, A9, P9, by omega, by omega, by go_num, by go_num, KN, HK9, HB9⟩
        case measure => simp [intOf]; omega
    · obtain rfl : i = u.length := by omega
      have hr := Lib.hid (KD.out m P KU.out)
      go_wp2_with fail
      go_ret
      exact ⟨by rw [hr.out]; rfl, BR.out⟩
end Go.Proofs.Ythlcjojhmhoadaa
