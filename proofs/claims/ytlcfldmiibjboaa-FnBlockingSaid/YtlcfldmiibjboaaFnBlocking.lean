/-
  For every two codes of bytes the law on Blocking (the model's answer; however boxes are moved, when all have left in the order, at least so many moves were made) returns true and leaves its arguments as they were. Conditions: none beyond the form's own reach.
-/
import Derived.Test.YtlcfldmiibjboaaRows
import Derived.Test.YtlcfldmiibjboaaGBase
import Derived.WalkKit
import Derived.ProofKit
import Derived.OpenShut
import Derived.ShutString
import Derived.ChangeOld
import Derived.Below
import Derived.Test.YtlcfldmiibjboaaGCr
import Derived.Test.YtlcfldmiibjboaaYkR
import Derived.Test.YtlcfldmiibjboaaDgW
import Derived.Test.YtlcfldmiibjboaaDgB
import Derived.Test.YtlcfldmiibjboaaDgE
import Derived.Test.YtlcfldmiibjboaaYiR
import Derived.Test.YtlcfldmiibjboaaYiT
import Derived.Test.YtlcfldmiibjboaaYiF
import Derived.Test.YtlcfldmiibjboaaDgX
import Derived.Test.YtlcfldmiibjboaaDgY
namespace Go.Proofs.Ytlcfldmiibjboaa.fnBlocking
open Go.ChangeShapes Go.WideShapes Go.ChangeAt Go.RowKit
open Go.ChangeMaps (open_string shut_string)
set_option linter.unusedVariables false


/-- What the walk is told of a slice of integers that came in. -/
def IsRow (k : IntKind) (w : World) (a : Option Addr) (len cap : Nat) (zs : List Int) : Prop :=
  (a = none ∧ len = 0 ∧ cap = 0 ∧ zs = []) ∨
  ∃ x, a = some x ∧ len ≤ cap ∧ cap ≤ maxLen ∧ zs.length = cap ∧ (∀ i, i < zs.length → w.cell? (x.add i) = some (.int k (zs.getD i 0))) ∧ ∀ n ∈ zs, (Lit.int k n).wf = true

set_option maxRecDepth 10000 in
set_option maxHeartbeats 16000000 in
theorem walk (a0 : Option Addr) (len0 cap0 : Nat) (a1 : Option Addr) (len1 cap1 : Nat) (w : World) (w0 : IsRow8 w a0 len0 cap0) (w1' : IsRow8 w a1 len1 cap1) :
    Calls Try.prog 11 #[.slice a0 len0 cap0, .slice a1 len1 cap1] w fun e w' => e = .returned (.bool true) ∧ Below w.heap.size w w' := by
  have hm0 := row8_len w0
  have hm1 := row8_len w1'
  unfold maxLen at hm0 hm1
  by_cases hl0 : (1048576 : Int) < (len0 : Int)
  · go_enter Try.func11, Try.ntmps11
    go_wp2_with fail
    go_ret
    exact ⟨rfl, Below.refl _ _⟩
  by_cases hl1 : (1048576 : Int) < (len1 : Int)
  · go_enter Try.func11, Try.ntmps11
    go_wp2_with fail
    go_ret
    exact ⟨rfl, Below.refl _ _⟩
  obtain ⟨i0, hi, hz0, hz1, hz2⟩ := info_parts infoMv
  have MI := Lib.hid hi
  have MZ0 := Lib.hid hz0
  have MZ1 := Lib.hid hz1
  have MZ2 := Lib.hid hz2
  clear hi hz0 hz1 hz2
  have HMORE := Lib.hid fun w' (hb : Below w.heap.size w w') => drawYardRun_any a1 len1 cap1 w' (row8_keep w1' hb)
  unfold DrewYR at HMORE
  go_enter Try.func11, Try.ntmps11
  go_wp2_with fail
  refine (drawBlocking_any a0 len0 cap0 w w0).mono ?_
  rintro e w1 ⟨h0, u, ss, ov, os, hl7, hf, ho26, rfl, nY, nO, hb⟩
  clear w0 w1'
  obtain ⟨ua, uc, rfl⟩ := nY.form
  obtain ⟨oa, oc, rfl⟩ := nO.holds.form
  have hh := nY.holds
  have HI := Lib.hid fun u v w (g : HoldsY w u ss) (gi : HoldsI w v os) => implBlocking_any h0 u v ss os w g gi
  have HS := Lib.hid fun u v w (g : HoldsY w u ss) (gi : HoldsI w v os) => specBlocking_any h0 u v ss os w g gi (by omega)
  have HNO := Lib.hid fun (ho : ordOk h0 ss os = false) => blk_no ho
  have HGE := Lib.hid fun (ho : ordOk h0 ss os = true) => blk_ge0 ho
  have HLAW := Lib.hid fun (ho : ordOk h0 ss os = true) l N (he : lv h0 l ss os = (N, true)) => blk_law ho he
  have HYD := Lib.hid fun (ho : ordOk h0 ss os = true) => (ordOk_iff.1 ho).1
  generalize blocking h0 ss os = r at HI HS HNO HGE HLAW
  have hr : (r != r) = false := by simp
  have b2 : Below w1.heap.size w1 (w1.alloc (.cells #[.int .i64 h0, .slice ua ss.length uc] 25)) := (Below.refl _ _).alloc (Nat.le_refl _) _
  have y2 := BoxY.new w1 h0 (.slice ua ss.length uc)
  have h2 := hh.keep b2
  have o2 := nO.holds.keep b2
  have C2 := hb.trans (b2.mono hb.size)
  generalize hW2 : w1.alloc (.cells #[.int .i64 h0, .slice ua ss.length uc] 25) = W2 at b2 y2 h2 o2 C2
  have HW2 := Lib.hid hW2
  clear hW2 b2 hb hh nY nO
  have ya := y2.c0
  have yb := y2.c1
  go_wp2_with fail
  rw [HW2.out]
  generalize w1.heap.size = Y at y2 ya yb
  clear HW2
  go_wp2_with fail
  refine (HI.out _ _ W2 h2 o2).mono ?_
  rintro e w3 ⟨rfl, b3⟩
  have C3 := C2.trans (b3.mono C2.size)
  have y3 := y2.keep b3
  have h3 := h2.keep b3
  have o3 := o2.keep b3
  clear C2 y2 h2 o2 b3 ya yb
  have ya := y3.c0
  have yb := y3.c1
  go_wp2_with fail
  refine (HS.out _ _ w3 h3 o3).mono ?_
  rintro e w4 ⟨rfl, b4⟩
  have C4 := C3.trans (b4.mono C3.size)
  have y4 := y3.keep b4
  have h4 := h3.keep b4
  have o4 := o3.keep b4
  clear C3 y3 h3 o3 b4 ya yb HI HS
  cases hk : ordOk h0 ss os
  · obtain rfl := HNO.out hk
    clear HNO HGE HLAW HYD y4 h4 o4
    go_wp2_with fail
    refine (alive_yes _).mono ?_
    rintro e w6 ⟨rfl, rfl⟩
    go_wp2
    go_ret
    exact ⟨rfl, C4⟩
  have hr0 := HGE.out hk
  have hyd := HYD.out hk
  have HLW := Lib.hid (HLAW.out hk)
  clear HNO HGE HLAW HYD hk
  have hr1 : ¬ r < 0 := by omega
  go_wp2_with fail
  refine (HMORE.out w4 C4).mono ?_
  rintro e w5 ⟨hB, uB, sB, lB, ms, -, -, hms, rfl, hhB, hmB, b5⟩
  obtain ⟨ub, ubc, rfl⟩ : ∃ a c, uB = .slice a sB.length c := by obtain ⟨a, c, e, _⟩ := hhB; exact ⟨a, c, e⟩
  obtain ⟨ma, mc, rfl⟩ : ∃ a c, lB = .slice a ms.length c := by obtain ⟨a, c, e, _⟩ := hmB; exact ⟨a, c, e⟩
  have C5 := C4.trans (b5.mono C4.size)
  have y5 := y4.keep b5
  have h5 := h4.keep b5
  have o5 := o4.keep b5
  clear y4 h4 o4 C4 b5 hhB HMORE
  have YK := Lib.hid fun (w' : World) (hb : Below w5.heap.size w5 w') => y5.keep hb
  have HK := Lib.hid fun (w' : World) (hb : Below w5.heap.size w5 w') => h5.keep hb
  have OK := Lib.hid fun (w' : World) (hb : Below w5.heap.size w5 w') => o5.keep hb
  have MK := Lib.hid fun (w' : World) (hb : Below w5.heap.size w5 w') => hmB.keep hb
  have CK := Lib.hid fun (w' : World) (hb : Below w5.heap.size w5 w') => C5.trans (hb.mono C5.size)
  have SK := Lib.hid fun (w' : World) (hb : Below w5.heap.size w5 w') N o (hN : w5.heap.size ≤ N) (ho : ∀ k, o = some k → w5.heap.size ≤ k) => StayO.of_old (Y := N) (o := o) h5 hb hN ho
  clear y5 h5 o5 hmB C5
  obtain ⟨p, hp⟩ : ∃ p, p = os.length := ⟨_, rfl⟩
  obtain ⟨q, hq⟩ : ∃ q, q = ms.length := ⟨_, rfl⟩
  have HNX := Lib.hid fun k N tt l (s : BlkSt h0 ss os k N tt l) (hk : k < os.length) d hd => s.next hk (d := d) hd
  have HLS := Lib.hid fun N tt l (s : BlkSt h0 ss os os.length N tt l) => s.last
  rw [← hp] at OK HNX HLS ho26 ⊢
  rw [← hq] at MK ⊢
  clear hp hq
  clear hms
  -- the drawn yard in its box, the empty list, the yard that is moved
  go_upto_region 10 with fail
  have c6 : Below w5.heap.size w5 (w5.alloc (.cells #[.int .i64 hB, .slice ub sB.length ubc] 25)) := (Below.refl _ _).alloc (Nat.le_refl _) _
  have z6 : w5.heap.size + 1 = (w5.alloc (.cells #[.int .i64 hB, .slice ub sB.length ubc] 25)).heap.size := by simp
  generalize hW6 : w5.alloc (.cells #[.int .i64 hB, .slice ub sB.length ubc] 25) = W6 at c6 z6 ⊢
  clear hW6
  go_upto_region 11 with fail
  have c7 : Below w5.heap.size w5 (W6.alloc (.cells #[] 41)) := c6.alloc (by omega) _
  have z7 : W6.heap.size + 1 = (W6.alloc (.cells #[] 41)).heap.size := by simp
  have o7 : (W6.alloc (.cells #[] 41)).ownsRow w5.heap.size 41 2 (.slice (some ⟨W6.heap.size, 0, none⟩) 0 0) 0 (rowM []) := own_empty (by omega) (heap_alloc_new _ _)
  generalize hW7 : W6.alloc (.cells #[] 41) = W7 at c7 z7 o7 ⊢
  clear hW7
  generalize hG : W6.heap.size = G at z6 z7 o7 ⊢
  clear hG c6
  have ya := (YK.out W7 c7).c0
  have yb := (YK.out W7 c7).c1
  go_upto_region 12 with fail
  have b8 : Below W7.heap.size W7 (W7.alloc (.cells #[.int .i64 h0, .slice ua ss.length uc] 25)) := (Below.refl _ _).alloc (Nat.le_refl _) _
  have c8 := c7.trans (b8.mono c7.size)
  have x8 := BoxY.new W7 h0 (.slice ua ss.length uc)
  have o8 := own_stay o7 b8
  clear ya yb o7
  generalize hW8 : W7.alloc (.cells #[.int .i64 h0, .slice ua ss.length uc] 25) = W8 at b8 c8 x8 o8 ⊢
  clear hW8
  generalize hN : W7.heap.size = N at z7 b8 x8 ⊢
  clear hN b8 c7
  have L8 := Lib.hid (show LoopB w5.heap.size N W8 h0 (.slice ua ss.length uc) ss G 0 [] from ⟨o8, x8, by omega, by omega, SK.out W8 c8 N (some G) (by omega) (fun k hk => by have := Option.some.inj hk; omega), c8.size⟩)
  have B8 := Lib.hid c8
  have HYD := Lib.hid hyd
  clear o8 x8 c8 z6 z7 SK hyd
  go_wp2_with fail
  go_loopw [10, 12] (fun lv i wr => ∃ (k g c : Nat) (l : List (Int × Int)) (xv : Value) (tt : List (List Int)), k ≤ 6 ∧ l.length ≤ k ∧ i = .int .i64 k ∧ lv = .slice (some ⟨g, 0, none⟩) l.length c ∧ Hid (LoopB w5.heap.size N wr h0 xv tt g c l) ∧ Hid (Done h0 ss l tt) ∧ Hid (Below w5.heap.size w5 wr)) (fun _ i _ => 6 - (intOf i).toNat)
  case atStart => exact ⟨0, G, 0, [], _, ss, by omega, by simp, rfl, rfl, L8, Lib.hid (.nil _), B8⟩
  case round =>
    obtain ⟨k, g, c, l, xv, tt, hk6, hlk, rfl, rfl, LS, DN, BR⟩ := hrel
    obtain ⟨xa, xc, rfl⟩ : ∃ a c, xv = .slice a tt.length c := by obtain ⟨a, c, e, _⟩ := LS.out.stay.holds; exact ⟨a, c, e⟩
    clear L8 B8
    by_cases hlt : k < q ∧ k < 6
    · obtain ⟨hkq, hk5⟩ := hlt
      obtain ⟨b, off, hkl, rfl, hbl, m0, m1⟩ := (MK.out wr BR.out).at_ hkq
      have ik : (k : Int) < (q : Int) := by omega
      have i6 : (k : Int) < 6 := by omega
      have i0k : (0 : Int) ≤ (k : Int) := by omega
      have MC := Lib.hid fun (w' : World) (hb : Below w5.heap.size w5 w') => (show w'.cell? ⟨b, off + k * 2, none⟩ = some (.int .i64 ms[k].1) ∧ w'.cell? ⟨b, off + k * 2 + 1, none⟩ = some (.int .i64 ms[k].2) by
        obtain ⟨b', off', hkl', e', _, q0, q1⟩ := (MK.out w' hb).at_ hkq
        obtain ⟨rfl, rfl⟩ : b = b' ∧ off = off' := by simpa using e'
        exact ⟨q0, q1⟩)
      generalize ms[k].1 = f at m0 MC
      generalize ms[k].2 = t at m1 MC
      have HM := Lib.hid fun (w' : World) (hs : Since wr w') => implYardMove_any h0 (.slice xa tt.length xc) tt f t w' (LS.out.stay.holds.keep hs)
      unfold MoveYGivesF at HM
      obtain ⟨mm, hmm⟩ : ∃ mm, mm = moveY h0 tt f t := ⟨_, rfl⟩
      rw [← hmm] at HM
      obtain ⟨⟨h', uu⟩, ok⟩ := mm
      have HMM := Lib.hid hmm.symm
      have HM' : Hid (∀ w', Since wr w' → Calls Try.prog 27 #[.agg #[.int .i64 h0, .slice xa tt.length xc], .agg #[.int .i64 f, .int .i64 t]] w' fun e w'' => ∃ u, e = .returned (.tuple #[.agg #[.int .i64 h', u], .bool ok]) ∧ FreeY w'.heap.size w''.heap.size w'' u uu.length (rowAt uu) ∧ Below w'.heap.size w' w'') := HM
      clear HM hmm
      go_upto_region 15 with fail
      go_cut [13, 14] from 60 to 87 (fun pv iv wx => ∃ (Bn : Nat) (u' : Value), pv = .pointer (some ⟨Bn, 0, none⟩) ∧ iv = .bool ok ∧ Hid (BoxY Bn wx h' u') ∧ Hid (NewY wr.heap.size wx u' uu) ∧ Hid (Below wr.heap.size wr wx))
      case first =>
        have CELL := Lib.hid fun (w' : World) (hs : Since wr w') => (show w'.cell? ⟨N, 0, none⟩ = some (.int .i64 h0) ∧ w'.cell? ⟨N, 1, none⟩ = some (.slice xa tt.length xc) ∧ w'.cell? ⟨b, off + k * 2, none⟩ = some (.int .i64 f) ∧ w'.cell? ⟨b, off + k * 2 + 1, none⟩ = some (.int .i64 t) ∧ Since wr w' from ⟨(LS.out.box.keep hs).c0, (LS.out.box.keep hs).c1, (Below.cell hs (p := ⟨b, off + k * 2, none⟩) hbl).trans m0, (Below.cell hs (p := ⟨b, off + k * 2 + 1, none⟩) hbl).trans m1, hs⟩)
        have SD := Lib.hid (show Since wr wr.drew from (Below.refl _ _).drew)
        have SA := Lib.hid (show Since wr ((wr.alloc (.cells #[.int .i64 0, .slice none 0 0] 25)).drew) from ((Below.refl _ _).alloc (Nat.le_refl _) _).drew)
        have hstart := CELL.out _ SD.out
        have HST2 := Lib.hid fun o : Obj => CELL.out _ (show Since wr (wr.alloc o).drew from ((Below.refl _ _).alloc (Nat.le_refl _) o).drew)
        go_region_held3 (fun w' => w'.cell? ⟨N, 0, none⟩ = some (.int .i64 h0) ∧ w'.cell? ⟨N, 1, none⟩ = some (.slice xa tt.length xc) ∧ w'.cell? ⟨b, off + k * 2, none⟩ = some (.int .i64 f) ∧ w'.cell? ⟨b, off + k * 2 + 1, none⟩ = some (.int .i64 t) ∧ Since wr w')
          (first | exact hstart | exact HST2.out _ | exact CELL.out _ S11.out | exact CELL.out _ (Since.alloc S11.out _) | exact CELL.out _ (Since.alloc (by exact (‹_ ∧ _› : _ ∧ _ ∧ _ ∧ _ ∧ Since wr _).2.2.2.2) _) | exact CELL.out _ (Below.setCell (Below.setCell S11.out HB11.out.2 _) HB11.out.2 _) | fail)
          (first
            | (go_at_call 27; ((with_reducible refine (HM'.out ((wr.alloc (.cells #[.int .i64 0, .slice none 0 0] 25)).drew) SA.out).mono ?_); rintro e w11 ⟨v11, rfl, n11', b11⟩; have n11 := FreeY.newY n11'; obtain ⟨p11, k11, rfl⟩ := NewY.form n11; have S11 := Lib.hid (show Since wr w11 from Below.trans (((Below.refl _ _).alloc (Nat.le_refl _) _).drew) (b11.mono (by simp))); have BX11 := Lib.hid (((BoxY.new wr 0 (.slice none 0 0)).keep ((Below.refl _ _).drew)).keep b11); have HB11 := Lib.hid (And.intro (show wr.heap.size < ((wr.alloc (.cells #[.int .i64 0, .slice none 0 0] 25)).drew).heap.size by simp) (Nat.le_refl wr.heap.size)); have d0 := BX11.out.c0; have d1 := BX11.out.c1; have e0 := BX11.out.frozen 0; have e1 := BX11.out.frozen 1; have B11 := b11.size; have N11 := Lib.hid n11; clear n11 n11'))
            | (go_at_call 27; ((with_reducible refine (HM'.out wr.drew SD.out).mono ?_); rintro e w11 ⟨v11, rfl, n11', b11⟩; have n11 := FreeY.newY n11'; obtain ⟨p11, k11, rfl⟩ := NewY.form n11; have S11 := Lib.hid (show Since wr w11 from Below.trans ((Below.refl _ _).drew) b11); have B11 := b11.size; have N11 := Lib.hid n11; clear n11 n11'))
            | fail)
        all_goals
          go_wp2_with fail
          go_meet
          first
            | exact layV N11.out S11.out
            | exact layW N11.out BX11.out HB11.out.1 HB11.out.2 S11.out
      case rest =>
        obtain ⟨Z, u6, rfl, rfl, HB, HN, HL⟩ := hcut
        rename World => Wx
        obtain ⟨a6, c6, rfl⟩ := HN.out.form
        have BR7 := Lib.hid (BR.out.trans (HL.out.mono BR.out.size))
        clear m0 m1 HM'
        cases ok
        · have LS7 := Lib.hid (LS.out.keep HL.out)
          clear HB HN HL LS BR
          go_wp2_with fail
          go_roundw
          case rel => exact ⟨k + 1, g, c, l, _, tt, by omega, by omega, by go_num, rfl, LS7, DN, BR7⟩
          case measure => simp [intOf]; omega
        · obtain ⟨-, e1, -⟩ := moveY_form HMM.out
          have e2 : h0 = h' := e1.symm
          subst e2
          have DN7 := Lib.hid (DN.out.snoc (m := (f, t)) HMM.out)
          have hgl := LS.out.at_.2.1
          have LS6 := LS.out.keep HL.out
          have LS7 := Lib.hid (LS6.take (h' := h0) (StayO.of_new (o := some g) HN.out LS.out.box.lt (fun k hk => by have := Option.some.inj hk; omega)))
          have hNK := LS.out.low
          have BR8 := Lib.hid ((BR7.out.setCell (p := ⟨N, 0, none⟩) hNK (.int .i64 h0)).setCell (p := ⟨N, 1, none⟩) hNK (.slice a6 uu.length c6))
          have za := HB.out.c0
          have zb := HB.out.c1
          have na := LS6.box.c0
          have nb := LS6.box.c1
          have ea := LS6.box.frozen 0
          have eb := LS6.box.frozen 1
          clear HB HN HL LS BR LS6 DN BR7
          go_upto_region 18 with fail
          generalize hW7 : (Wx.setCell ⟨N, 0, none⟩ (.int .i64 h0)).setCell ⟨N, 1, none⟩ (.slice a6 uu.length c6) = W9 at LS7 BR8 ⊢
          clear hW7 za zb na nb ea eb
          obtain ⟨m0, m1⟩ := MC.out W9 BR8.out
          have A8 := Lib.hid fun o : Obj => (Below.refl W9.heap.size W9).alloc (Nat.le_refl _) o
          have O8 := Lib.hid fun o : Obj => (LS7.out.keep (A8.out o)).own
          have HSZ := Lib.hid fun o : Obj => (LS7.out.keep (A8.out o)).size
          have HCN := Lib.hid fun j u hj => cells_new (w := W9) (cs := [Value.int .i64 f, .int .i64 t]) (T := 41) j u hj
          go_wp2_with (at_builtin; refine wpList_append_lies _ rfl _ _ 46 rfl w5.heap.size 41 i0 (.agg #[.int .i64 0, .int .i64 0]) 2 16 Try.underlying46 MI.out MZ0.out MZ1.out MZ2.out rfl (by decide) _ l.length (rowM l) rfl (O8.out _) ⟨W9.heap.size, 0, none⟩ 1 1 [.int .i64 f, .int .i64 t] rfl rfl HCN.out (by simp [Value.oneCell']) (by decide) (by unfold maxLen; omega) (by omega) (HSZ.out _) _ rfl ?_; intro g9 c9 w9 ho9 hg9 hgg9 _; have PS := Lib.hid ((LS7.out.keep (A8.out _)).push (m := [(f, t)]) ho9 rfl rfl hg9 hgg9); clear ho9 hg9 hgg9)
          have BR9 := Lib.hid ((BR8.out.trans ((A8.out _).mono BR8.out.size)).trans PS.out.2)
          go_roundw
          case rel => exact ⟨k + 1, g9, c9, l ++ [(f, t)], _, uu, by omega, by rw [List.length_append]; show l.length + 1 ≤ k + 1; omega, by go_num, by rw [List.length_append]; rfl, Lib.hid PS.out.1, DN7, BR9⟩
          case measure => simp [intOf]; omega
    · have hnot : ¬ ((k : Int) < (q : Int) ∧ (k : Int) < 6) := by omega
      have ST := Lib.hid (BlkSt.start os HYD.out DN.out)
      have hlen0 : l.length ≤ 6 := by omega
      clear DN hlk
      by_cases hkq : (k : Int) < (q : Int)
      · have hk6' : ¬ (k : Int) < 6 := by omega
        clear hnot hlt hk6
        go_wp2_with fail
        go_loopw [10, 15] (fun lv i wr => ∃ (k M g c : Nat) (l : List (Int × Int)) (xv : Value) (tt : List (List Int)), k ≤ p ∧ l.length ≤ 6 + 5 * k ∧ i = .int .i64 k ∧ lv = .slice (some ⟨g, 0, none⟩) l.length c ∧ Hid (LoopB w5.heap.size N wr h0 xv tt g c l) ∧ Hid (BlkSt h0 ss os k M tt l) ∧ Hid (Below w5.heap.size w5 wr)) (fun _ i _ => p - (intOf i).toNat)
        case atStart => exact ⟨0, l.length, g, c, l, _, tt, by omega, by omega, rfl, rfl, LS, ST, BR⟩
        case round =>
          clear LS ST BR hlen0 HYD MK
          obtain ⟨k, M, g, c, l, xv, tt, hkp, hlk, rfl, rfl, LS, ST, BR⟩ := hrel
          obtain ⟨xa, xc, rfl⟩ : ∃ a c, xv = .slice a tt.length c := by obtain ⟨a, c, e, _⟩ := LS.out.stay.holds; exact ⟨a, c, e⟩
          by_cases hlt : k < p
          · obtain ⟨b, off, rfl, hbl, m0⟩ := (OK.out wr BR.out).at_ hlt
            have ik : (k : Int) < (p : Int) := by omega
            have i0k : (0 : Int) ≤ (k : Int) := by omega
            have OC := Lib.hid fun (w' : World) (hb : Below w5.heap.size w5 w') => (show b < w'.heap.size ∧ w'.cell? ⟨b, off + k, none⟩ = some (.int .i64 (os.getD k 0)) by
              obtain ⟨b', off', e', hb', q0⟩ := (OK.out w' hb).at_ hlt
              obtain ⟨rfl, rfl⟩ : b = b' ∧ off = off' := by simpa using e'
              exact ⟨hb', q0⟩)
            have HNXk := Lib.hid fun d hd => HNX.out k M tt l ST.out hlt d hd
            generalize os.getD k 0 = x at m0 OC HNXk
            have HDM := Lib.hid fun (w' : World) (hs : Since wr w') => implDigMoves_any h0 (.slice xa tt.length xc) tt x w' (LS.out.stay.holds.keep hs)
            unfold DigGives at HDM
            generalize hdm0 : digM h0 tt x = dm at HDM
            obtain ⟨d, ok⟩ := dm
            have hdm := Lib.hid hdm0
            clear hdm0
            have CELL := Lib.hid fun (w' : World) (hs : Since wr w') => (show w'.cell? ⟨N, 0, none⟩ = some (.int .i64 h0) ∧ w'.cell? ⟨N, 1, none⟩ = some (.slice xa tt.length xc) ∧ w'.cell? ⟨b, off + k, none⟩ = some (.int .i64 x) ∧ Since wr w' from ⟨(LS.out.box.keep hs).c0, (LS.out.box.keep hs).c1, (Below.cell hs (p := ⟨b, off + k, none⟩) hbl).trans m0, hs⟩)
            have hstart := CELL.out _ (show Since wr wr.drew from (Below.refl _ _).drew)
            clear m0
            go_wp2_with fail
            go_region_held3 (fun w' => w'.cell? ⟨N, 0, none⟩ = some (.int .i64 h0) ∧ w'.cell? ⟨N, 1, none⟩ = some (.slice xa tt.length xc) ∧ w'.cell? ⟨b, off + k, none⟩ = some (.int .i64 x) ∧ Since wr w')
              (first | exact hstart | exact CELL.out _ (Since.call (by exact (‹_ ∧ _› : _ ∧ _ ∧ _ ∧ Since wr _).2.2.2) ‹_›))
              (first
                | (go_at_call 47; ((with_reducible refine (HDM.out _ (by exact (‹_ ∧ _› : _ ∧ _ ∧ _ ∧ Since wr _).2.2.2)).mono ?_); rintro e w3 ⟨v3, rfl, n3, b3⟩; obtain ⟨da, dc, rfl⟩ := FreeM.form n3))
                | fail)
            rename_i hheld
            have b3w : Below wr.heap.size wr w3 := hheld.2.2.2
            have LS3 := Lib.hid (LS.out.keep b3w)
            have BR3 := Lib.hid (BR.out.trans (b3w.mono BR.out.size))
            have HD3 := Lib.hid n3.holds
            clear hheld hstart CELL HDM b3 n3 b3w LS BR ST
            cases ok
            · have C9 := CK.out w3 BR3.out
              go_wp2_with fail
              go_ret
              exact ⟨rfl, C9⟩
            · obtain ⟨f, vv, uu, hrun, hvk, hfi, htk, hd4, hst⟩ := HNXk.out d hdm.out
              have ST9 := Lib.hid hst
              have HR := Lib.hid (implYardRun_any h0 (.slice xa tt.length xc) (.slice da d.length dc) tt d w3 LS3.out.stay.holds HD3.out)
              unfold RunYGivesF at HR
              rw [hrun] at HR
              have n0 := LS3.out.box.c0
              have n1 := LS3.out.box.c1
              clear hrun hst hdm HNXk
              go_wp2_with fail
              refine HR.out.mono ?_
              rintro e w4 ⟨u4, rfl, n4, b4⟩
              have n4' : NewY w3.heap.size w4 u4 vv := FreeY.newY n4
              obtain ⟨a4, c4, rfl⟩ := n4'.form
              have b5 : Below w4.heap.size w4 (w4.alloc (.cells #[.int .i64 h0, .slice a4 vv.length c4] 25)) := (Below.refl _ _).alloc (Nat.le_refl _) _
              have b35 := b4.trans (b5.mono b4.size)
              have X5 := Lib.hid (BoxY.new w4 h0 (.slice a4 vv.length c4))
              have XK := Lib.hid (show w5.heap.size ≤ w4.heap.size from Nat.le_trans LS3.out.size b4.size)
              have hgZ := LS3.out.at_.2.1
              have hZg : g ≠ w4.heap.size := by have := b4.size; omega
              have LS5 := Lib.hid (LS3.out.keep b35)
              have BR5 := Lib.hid (BR3.out.trans (b35.mono BR3.out.size))
              have HD5 := Lib.hid (HD3.out.keep b35)
              have SZ5 := Lib.hid (show StayO w4.heap.size (some g) (w4.alloc (.cells #[.int .i64 h0, .slice a4 vv.length c4] 25)) (.slice a4 vv.length c4) vv from fun w' hs hb => n4'.far (Nat.le_trans b5.size hs) fun k hk hkl => (hb k (Nat.lt_of_lt_of_le hkl b5.size) (by omega) (fun e => by have := Option.some.inj e; omega)).trans (b5.block k hkl))
              clear n4 n4' b4 b5 b35 LS3 BR3 HD3 HR n0 n1
              go_upto_region 26 with fail
              generalize hW5 : w4.alloc (.cells #[.int .i64 h0, .slice a4 vv.length c4] 25) = W5 at X5 LS5 BR5 HD5 SZ5 ⊢
              clear hW5
              generalize hX : w4.heap.size = X at X5 hZg SZ5 XK ⊢
              clear hX
              have HZ5 := Lib.hid SZ5.out.holds
              rcases Nat.eq_zero_or_pos d.length with hd0 | hd0
              · obtain rfl := List.length_eq_zero_iff.1 hd0
                have hgc := LS5.out.at_.2.2
                go_wp2_with (at_builtin; refine wpList_append_nothing rfl _ _ 46 rfl 41 i0 Try.underlying46 MI.out ⟨g, 0, none⟩ l.length c hgc rfl da dc rfl ?_)
                have LS6 := LS5
                have BR6 := BR5
                have HZ6 := HZ5
                have X6 := X5
                clear LS5 BR5 HZ5 X5 SZ5 HD5 hd0
                generalize W5 = W6 at LS6 BR6 HZ6 X6 ⊢
                have HF6 := Lib.hid fun (w' : World) (hs : Since W6 w') => implYardFind_any h0 (.slice a4 vv.length c4) vv x w' (HZ6.out.keep hs)
                have HT6 := Lib.hid fun (w' : World) (hs : Since W6 w') => implYardTake_any h0 (.slice a4 vv.length c4) vv f w' (HZ6.out.keep hs)
                unfold TakeYGivesF at HT6
                rw [hfi] at HF6
                rw [htk] at HT6
                obtain ⟨hb6, m6⟩ := OC.out W6 BR6.out
                have CELL := Lib.hid fun (w' : World) (hs : Since W6 w') => (show w'.cell? ⟨X, 0, none⟩ = some (.int .i64 h0) ∧ w'.cell? ⟨X, 1, none⟩ = some (.slice a4 vv.length c4) ∧ w'.cell? ⟨b, off + k, none⟩ = some (.int .i64 x) ∧ Since W6 w' from ⟨(X6.out.keep hs).c0, (X6.out.keep hs).c1, (Below.cell hs (p := ⟨b, off + k, none⟩) hb6).trans m6, hs⟩)
                have hstart := CELL.out _ (show Since W6 W6.drew from (Below.refl _ _).drew)
                clear m6 hfi htk
                go_wp2_with fail
                go_region_held3 (fun w' => w'.cell? ⟨X, 0, none⟩ = some (.int .i64 h0) ∧ w'.cell? ⟨X, 1, none⟩ = some (.slice a4 vv.length c4) ∧ w'.cell? ⟨b, off + k, none⟩ = some (.int .i64 x) ∧ Since W6 w')
                  (first | exact hstart | exact CELL.out _ (Since.call (by exact (‹_ ∧ _› : _ ∧ _ ∧ _ ∧ Since W6 _).2.2.2) ‹_›))
                  (first
                    | (go_at_call 25; ((with_reducible refine (HF6.out _ (by exact (‹_ ∧ _› : _ ∧ _ ∧ _ ∧ Since W6 _).2.2.2)).mono ?_); rintro e w7 ⟨rfl, b7⟩))
                    | fail)
                rename_i hheld
                have s7 : Below W6.heap.size W6 w7 := hheld.2.2.2
                have x0 := hheld.1
                have x1 := hheld.2.1
                have LS7' := Lib.hid (LS6.out.keep s7)
                have BR7 := Lib.hid (BR6.out.trans (s7.mono BR6.out.size))
                have HT7 := Lib.hid (HT6.out w7 s7)
                clear hheld hstart CELL HF6 HT6 b7 s7 LS6 BR6 HZ6 X6
                go_wp2_with fail
                refine HT7.out.mono ?_
                rintro e w8 ⟨u8, rfl, n8, b8⟩
                have n8' : NewY w7.heap.size w8 u8 uu := FreeY.newY n8
                obtain ⟨a8, c8, rfl⟩ := n8'.form
                have b9 : Below w8.heap.size w8 (w8.alloc (.cells #[.int .i64 h0, .slice a8 uu.length c8] 25)) := (Below.refl _ _).alloc (Nat.le_refl _) _
                have b89 := b8.trans (b9.mono b8.size)
                have hgl := LS7'.out.at_.2.1
                have hNl := LS7'.out.box.lt
                have hNK := LS7'.out.low
                have LS8 := LS7'.out.keep b89
                have LS7 := Lib.hid (LS8.take (h' := h0) (StayO.of_new (o := some g) (n8'.keep b9) hNl (fun k hk => by have := Option.some.inj hk; omega)))
                have BR8 := Lib.hid (((BR7.out.trans (b89.mono BR7.out.size)).setCell (p := ⟨N, 0, none⟩) hNK (.int .i64 h0)).setCell (p := ⟨N, 1, none⟩) hNK (.slice a8 uu.length c8))
                have Z8 := BoxY.new w8 h0 (.slice a8 uu.length c8)
                have za := Z8.c0
                have zb := Z8.c1
                have na := LS8.box.c0
                have nb := LS8.box.c1
                have ea := LS8.box.frozen 0
                have eb := LS8.box.frozen 1
                clear n8 n8' b8 b9 b89 LS8 Z8 LS7' BR7 HT7 x0 x1 hgl
                go_upto_region 30 with fail
                generalize hW9 : ((w8.alloc (.cells #[.int .i64 h0, .slice a8 uu.length c8] 25)).setCell ⟨N, 0, none⟩ (.int .i64 h0)).setCell ⟨N, 1, none⟩ (.slice a8 uu.length c8) = W9 at LS7 BR8 ⊢
                clear hW9 za zb na nb ea eb
                
                have A8 := Lib.hid fun o : Obj => (Below.refl W9.heap.size W9).alloc (Nat.le_refl _) o
                have O8 := Lib.hid fun o : Obj => (LS7.out.keep (A8.out o)).own
                have HSZ := Lib.hid fun o : Obj => (LS7.out.keep (A8.out o)).size
                have HCN := Lib.hid fun j u hj => cells_new (w := W9) (cs := [Value.int .i64 (f : Int), .int .i64 (-1)]) (T := 41) j u hj
                go_wp2_with (at_builtin; refine wpList_append_lies _ rfl _ _ 46 rfl w5.heap.size 41 i0 (.agg #[.int .i64 0, .int .i64 0]) 2 16 Try.underlying46 MI.out MZ0.out MZ1.out MZ2.out rfl (by decide) _ l.length (rowM l) rfl (O8.out _) ⟨W9.heap.size, 0, none⟩ 1 1 [.int .i64 (f : Int), .int .i64 (-1)] rfl rfl HCN.out (by simp [Value.oneCell']) (by decide) (by unfold maxLen; omega) (by omega) (HSZ.out _) _ rfl ?_; intro g9 c9 w9 ho9 hg9 hgg9 _; have PS := Lib.hid ((LS7.out.keep (A8.out _)).push (m := [((f : Int), (-1))]) ho9 rfl rfl hg9 hgg9); clear ho9 hg9 hgg9)
                
                have BR9 := Lib.hid ((BR8.out.trans ((A8.out _).mono BR8.out.size)).trans PS.out.2)
                go_roundw
                case rel => exact ⟨k + 1, _, g9, c9, l ++ [((f : Int), -1)], _, uu, by omega, by rw [List.length_append]; show l.length + 1 ≤ 6 + 5 * (k + 1); omega, by go_num, by rw [List.length_append]; rfl, Lib.hid PS.out.1, Lib.hid (by have := ST9.out; rw [List.append_nil] at this; exact this), BR9⟩
                case measure => simp [intOf]; omega
              · obtain ⟨b', off', hk', rfl, -, -, -⟩ := HD5.out.at_ (k := 0) hd0
                have HRW := Lib.hid fun j u hj => HoldsM.row HD5.out j u hj
                have hown := Lib.hid LS5.out.own
                have hsz5 := LS5.out.size
                go_wp2_with (at_builtin; refine wpList_append_lies _ rfl _ _ 46 rfl w5.heap.size 41 i0 (.agg #[.int .i64 0, .int .i64 0]) 2 16 Try.underlying46 MI.out MZ0.out MZ1.out MZ2.out rfl (by decide) _ l.length (rowM l) rfl hown.out ⟨b', off', none⟩ d.length dc (rowM d) rfl (rowM_len d) HRW.out (rowM_one d) hd0 (by unfold maxLen; omega) (by omega) hsz5 _ rfl ?_; intro g6 c6 W6 ho6 hg6 hgg6 hl6; have PS := Lib.hid (LS5.out.push (m := d) ho6 rfl rfl hg6 hgg6); have G6 := Lib.hid (show W5.grownBy W6 (Value.slice (some ⟨g, 0, none⟩) l.length c).ownBlock from hg6); clear ho6 hg6 hgg6)
                have blk : ∀ k, k < W5.heap.size → g ≠ k → W6.heap[k]? = W5.heap[k]? := fun k hk hne => G6.out.block k hk (fun e => hne (by simpa [Value.ownBlock] using e.symm))
                have hXl := X5.out.lt
                have hsz := G6.out.size
                have X6 := Lib.hid (X5.out.at_ (blk X hXl hZg))
                have HZ6 := Lib.hid (SZ5.out W6 hsz fun k hk h1 h2 => blk k hk (fun e => h2 (by rw [e])))
                have hl6 : (l ++ d).length = l.length + d.length := List.length_append
                have LS6 := Lib.hid PS.out.1
                have BR6 := Lib.hid (BR5.out.trans PS.out.2)
                obtain ⟨l6, hl6'⟩ : ∃ l6, l6 = l ++ d := ⟨_, rfl⟩
                have ST6 : Hid (BlkSt h0 ss os (k + 1) (M + d.length) uu (l6 ++ [((f : Int), -1)])) := by rw [hl6']; exact ST9
                rw [← hl6'] at hl6 LS6
                rw [← hl6]
                have hl6b : l6.length ≤ l.length + d.length := Nat.le_of_eq hl6
                clear hl6
                clear LS5 BR5 HZ5 X5 SZ5 HD5 HRW hown PS G6 blk hXl hsz hl6' ST9
                have HF6 := Lib.hid fun (w' : World) (hs : Since W6 w') => implYardFind_any h0 (.slice a4 vv.length c4) vv x w' (HZ6.out.keep hs)
                have HT6 := Lib.hid fun (w' : World) (hs : Since W6 w') => implYardTake_any h0 (.slice a4 vv.length c4) vv f w' (HZ6.out.keep hs)
                unfold TakeYGivesF at HT6
                rw [hfi] at HF6
                rw [htk] at HT6
                obtain ⟨hb6, m6⟩ := OC.out W6 BR6.out
                have CELL := Lib.hid fun (w' : World) (hs : Since W6 w') => (show w'.cell? ⟨X, 0, none⟩ = some (.int .i64 h0) ∧ w'.cell? ⟨X, 1, none⟩ = some (.slice a4 vv.length c4) ∧ w'.cell? ⟨b, off + k, none⟩ = some (.int .i64 x) ∧ Since W6 w' from ⟨(X6.out.keep hs).c0, (X6.out.keep hs).c1, (Below.cell hs (p := ⟨b, off + k, none⟩) hb6).trans m6, hs⟩)
                have hstart := CELL.out _ (show Since W6 W6.drew from (Below.refl _ _).drew)
                clear m6 hfi htk
                go_wp2_with fail
                go_region_held3 (fun w' => w'.cell? ⟨X, 0, none⟩ = some (.int .i64 h0) ∧ w'.cell? ⟨X, 1, none⟩ = some (.slice a4 vv.length c4) ∧ w'.cell? ⟨b, off + k, none⟩ = some (.int .i64 x) ∧ Since W6 w')
                  (first | exact hstart | exact CELL.out _ (Since.call (by exact (‹_ ∧ _› : _ ∧ _ ∧ _ ∧ Since W6 _).2.2.2) ‹_›))
                  (first
                    | (go_at_call 25; ((with_reducible refine (HF6.out _ (by exact (‹_ ∧ _› : _ ∧ _ ∧ _ ∧ Since W6 _).2.2.2)).mono ?_); rintro e w7 ⟨rfl, b7⟩))
                    | fail)
                rename_i hheld
                have s7 : Below W6.heap.size W6 w7 := hheld.2.2.2
                have x0 := hheld.1
                have x1 := hheld.2.1
                have LS7' := Lib.hid (LS6.out.keep s7)
                have BR7 := Lib.hid (BR6.out.trans (s7.mono BR6.out.size))
                have HT7 := Lib.hid (HT6.out w7 s7)
                clear hheld hstart CELL HF6 HT6 b7 s7 LS6 BR6 HZ6 X6
                go_wp2_with fail
                refine HT7.out.mono ?_
                rintro e w8 ⟨u8, rfl, n8, b8⟩
                have n8' : NewY w7.heap.size w8 u8 uu := FreeY.newY n8
                obtain ⟨a8, c8, rfl⟩ := n8'.form
                have b9 : Below w8.heap.size w8 (w8.alloc (.cells #[.int .i64 h0, .slice a8 uu.length c8] 25)) := (Below.refl _ _).alloc (Nat.le_refl _) _
                have b89 := b8.trans (b9.mono b8.size)
                have hgl := LS7'.out.at_.2.1
                have hNl := LS7'.out.box.lt
                have hNK := LS7'.out.low
                have LS8 := LS7'.out.keep b89
                have LS7 := Lib.hid (LS8.take (h' := h0) (StayO.of_new (o := some g6) (n8'.keep b9) hNl (fun k hk => by have := Option.some.inj hk; omega)))
                have BR8 := Lib.hid (((BR7.out.trans (b89.mono BR7.out.size)).setCell (p := ⟨N, 0, none⟩) hNK (.int .i64 h0)).setCell (p := ⟨N, 1, none⟩) hNK (.slice a8 uu.length c8))
                have Z8 := BoxY.new w8 h0 (.slice a8 uu.length c8)
                have za := Z8.c0
                have zb := Z8.c1
                have na := LS8.box.c0
                have nb := LS8.box.c1
                have ea := LS8.box.frozen 0
                have eb := LS8.box.frozen 1
                clear n8 n8' b8 b9 b89 LS8 Z8 LS7' BR7 HT7 x0 x1 hgl
                go_upto_region 30 with fail
                generalize hW9 : ((w8.alloc (.cells #[.int .i64 h0, .slice a8 uu.length c8] 25)).setCell ⟨N, 0, none⟩ (.int .i64 h0)).setCell ⟨N, 1, none⟩ (.slice a8 uu.length c8) = W9 at LS7 BR8 ⊢
                clear hW9 za zb na nb ea eb
                
                have A8 := Lib.hid fun o : Obj => (Below.refl W9.heap.size W9).alloc (Nat.le_refl _) o
                have O8 := Lib.hid fun o : Obj => (LS7.out.keep (A8.out o)).own
                have HSZ := Lib.hid fun o : Obj => (LS7.out.keep (A8.out o)).size
                have HCN := Lib.hid fun j u hj => cells_new (w := W9) (cs := [Value.int .i64 (f : Int), .int .i64 (-1)]) (T := 41) j u hj
                go_wp2_with (at_builtin; refine wpList_append_lies _ rfl _ _ 46 rfl w5.heap.size 41 i0 (.agg #[.int .i64 0, .int .i64 0]) 2 16 Try.underlying46 MI.out MZ0.out MZ1.out MZ2.out rfl (by decide) _ l6.length (rowM l6) rfl (O8.out _) ⟨W9.heap.size, 0, none⟩ 1 1 [.int .i64 (f : Int), .int .i64 (-1)] rfl rfl HCN.out (by simp [Value.oneCell']) (by decide) (by unfold maxLen; omega) (by omega) (HSZ.out _) _ rfl ?_; intro g9 c9 w9 ho9 hg9 hgg9 _; have PS := Lib.hid ((LS7.out.keep (A8.out _)).push (m := [((f : Int), (-1))]) ho9 rfl rfl hg9 hgg9); clear ho9 hg9 hgg9)
                
                have BR9 := Lib.hid ((BR8.out.trans ((A8.out _).mono BR8.out.size)).trans PS.out.2)
                go_roundw
                case rel => exact ⟨k + 1, _, g9, c9, l6 ++ [((f : Int), -1)], _, uu, by omega, by rw [List.length_append]; show l6.length + 1 ≤ 6 + 5 * (k + 1); omega, by go_num, by rw [List.length_append]; rfl, Lib.hid PS.out.1, ST6, BR9⟩
                case measure => simp [intOf]; omega
          · obtain rfl : k = p := by omega
            have hlast := HLS.out M tt l ST.out
            have hge := HLW.out l M hlast
            have HV := Lib.hid (leaves_any h0 (.slice ua ss.length uc) (.slice (some ⟨g, 0, none⟩) l.length c) (.slice oa k oc) ss l os wr (HK.out wr BR.out) (HoldsM.of_own LS.out.own) (OK.out wr BR.out) (by omega))
            rw [hlast] at HV
            have ya := (YK.out wr BR.out).c0
            have yb := (YK.out wr BR.out).c1
            have C9 := CK.out wr BR.out
            clear LS ST BR HLS HLW hlast
            go_wp2_with fail
            refine HV.out.mono ?_
            rintro e w9 ⟨rfl, b9⟩
            go_wp2_with fail
            go_ret
            exact ⟨by first | rfl | simp [hge], C9.trans (b9.mono C9.size)⟩
      · clear hnot hlt hk6
        go_wp2_with fail
        go_loopw [10, 15] (fun lv i wr => ∃ (k M g c : Nat) (l : List (Int × Int)) (xv : Value) (tt : List (List Int)), k ≤ p ∧ l.length ≤ 6 + 5 * k ∧ i = .int .i64 k ∧ lv = .slice (some ⟨g, 0, none⟩) l.length c ∧ Hid (LoopB w5.heap.size N wr h0 xv tt g c l) ∧ Hid (BlkSt h0 ss os k M tt l) ∧ Hid (Below w5.heap.size w5 wr)) (fun _ i _ => p - (intOf i).toNat)
        case atStart => exact ⟨0, l.length, g, c, l, _, tt, by omega, by omega, rfl, rfl, LS, ST, BR⟩
        case round =>
          clear LS ST BR hlen0 HYD MK
          obtain ⟨k, M, g, c, l, xv, tt, hkp, hlk, rfl, rfl, LS, ST, BR⟩ := hrel
          obtain ⟨xa, xc, rfl⟩ : ∃ a c, xv = .slice a tt.length c := by obtain ⟨a, c, e, _⟩ := LS.out.stay.holds; exact ⟨a, c, e⟩
          by_cases hlt : k < p
          · obtain ⟨b, off, rfl, hbl, m0⟩ := (OK.out wr BR.out).at_ hlt
            have ik : (k : Int) < (p : Int) := by omega
            have i0k : (0 : Int) ≤ (k : Int) := by omega
            have OC := Lib.hid fun (w' : World) (hb : Below w5.heap.size w5 w') => (show b < w'.heap.size ∧ w'.cell? ⟨b, off + k, none⟩ = some (.int .i64 (os.getD k 0)) by
              obtain ⟨b', off', e', hb', q0⟩ := (OK.out w' hb).at_ hlt
              obtain ⟨rfl, rfl⟩ : b = b' ∧ off = off' := by simpa using e'
              exact ⟨hb', q0⟩)
            have HNXk := Lib.hid fun d hd => HNX.out k M tt l ST.out hlt d hd
            generalize os.getD k 0 = x at m0 OC HNXk
            have HDM := Lib.hid fun (w' : World) (hs : Since wr w') => implDigMoves_any h0 (.slice xa tt.length xc) tt x w' (LS.out.stay.holds.keep hs)
            unfold DigGives at HDM
            generalize hdm0 : digM h0 tt x = dm at HDM
            obtain ⟨d, ok⟩ := dm
            have hdm := Lib.hid hdm0
            clear hdm0
            have CELL := Lib.hid fun (w' : World) (hs : Since wr w') => (show w'.cell? ⟨N, 0, none⟩ = some (.int .i64 h0) ∧ w'.cell? ⟨N, 1, none⟩ = some (.slice xa tt.length xc) ∧ w'.cell? ⟨b, off + k, none⟩ = some (.int .i64 x) ∧ Since wr w' from ⟨(LS.out.box.keep hs).c0, (LS.out.box.keep hs).c1, (Below.cell hs (p := ⟨b, off + k, none⟩) hbl).trans m0, hs⟩)
            have hstart := CELL.out _ (show Since wr wr.drew from (Below.refl _ _).drew)
            clear m0
            go_wp2_with fail
            go_region_held3 (fun w' => w'.cell? ⟨N, 0, none⟩ = some (.int .i64 h0) ∧ w'.cell? ⟨N, 1, none⟩ = some (.slice xa tt.length xc) ∧ w'.cell? ⟨b, off + k, none⟩ = some (.int .i64 x) ∧ Since wr w')
              (first | exact hstart | exact CELL.out _ (Since.call (by exact (‹_ ∧ _› : _ ∧ _ ∧ _ ∧ Since wr _).2.2.2) ‹_›))
              (first
                | (go_at_call 47; ((with_reducible refine (HDM.out _ (by exact (‹_ ∧ _› : _ ∧ _ ∧ _ ∧ Since wr _).2.2.2)).mono ?_); rintro e w3 ⟨v3, rfl, n3, b3⟩; obtain ⟨da, dc, rfl⟩ := FreeM.form n3))
                | fail)
            rename_i hheld
            have b3w : Below wr.heap.size wr w3 := hheld.2.2.2
            have LS3 := Lib.hid (LS.out.keep b3w)
            have BR3 := Lib.hid (BR.out.trans (b3w.mono BR.out.size))
            have HD3 := Lib.hid n3.holds
            clear hheld hstart CELL HDM b3 n3 b3w LS BR ST
            cases ok
            · have C9 := CK.out w3 BR3.out
              go_wp2_with fail
              go_ret
              exact ⟨rfl, C9⟩
            · obtain ⟨f, vv, uu, hrun, hvk, hfi, htk, hd4, hst⟩ := HNXk.out d hdm.out
              have ST9 := Lib.hid hst
              have HR := Lib.hid (implYardRun_any h0 (.slice xa tt.length xc) (.slice da d.length dc) tt d w3 LS3.out.stay.holds HD3.out)
              unfold RunYGivesF at HR
              rw [hrun] at HR
              have n0 := LS3.out.box.c0
              have n1 := LS3.out.box.c1
              clear hrun hst hdm HNXk
              go_wp2_with fail
              refine HR.out.mono ?_
              rintro e w4 ⟨u4, rfl, n4, b4⟩
              have n4' : NewY w3.heap.size w4 u4 vv := FreeY.newY n4
              obtain ⟨a4, c4, rfl⟩ := n4'.form
              have b5 : Below w4.heap.size w4 (w4.alloc (.cells #[.int .i64 h0, .slice a4 vv.length c4] 25)) := (Below.refl _ _).alloc (Nat.le_refl _) _
              have b35 := b4.trans (b5.mono b4.size)
              have X5 := Lib.hid (BoxY.new w4 h0 (.slice a4 vv.length c4))
              have XK := Lib.hid (show w5.heap.size ≤ w4.heap.size from Nat.le_trans LS3.out.size b4.size)
              have hgZ := LS3.out.at_.2.1
              have hZg : g ≠ w4.heap.size := by have := b4.size; omega
              have LS5 := Lib.hid (LS3.out.keep b35)
              have BR5 := Lib.hid (BR3.out.trans (b35.mono BR3.out.size))
              have HD5 := Lib.hid (HD3.out.keep b35)
              have SZ5 := Lib.hid (show StayO w4.heap.size (some g) (w4.alloc (.cells #[.int .i64 h0, .slice a4 vv.length c4] 25)) (.slice a4 vv.length c4) vv from fun w' hs hb => n4'.far (Nat.le_trans b5.size hs) fun k hk hkl => (hb k (Nat.lt_of_lt_of_le hkl b5.size) (by omega) (fun e => by have := Option.some.inj e; omega)).trans (b5.block k hkl))
              clear n4 n4' b4 b5 b35 LS3 BR3 HD3 HR n0 n1
              go_upto_region 26 with fail
              generalize hW5 : w4.alloc (.cells #[.int .i64 h0, .slice a4 vv.length c4] 25) = W5 at X5 LS5 BR5 HD5 SZ5 ⊢
              clear hW5
              generalize hX : w4.heap.size = X at X5 hZg SZ5 XK ⊢
              clear hX
              have HZ5 := Lib.hid SZ5.out.holds
              rcases Nat.eq_zero_or_pos d.length with hd0 | hd0
              · obtain rfl := List.length_eq_zero_iff.1 hd0
                have hgc := LS5.out.at_.2.2
                go_wp2_with (at_builtin; refine wpList_append_nothing rfl _ _ 46 rfl 41 i0 Try.underlying46 MI.out ⟨g, 0, none⟩ l.length c hgc rfl da dc rfl ?_)
                have LS6 := LS5
                have BR6 := BR5
                have HZ6 := HZ5
                have X6 := X5
                clear LS5 BR5 HZ5 X5 SZ5 HD5 hd0
                generalize W5 = W6 at LS6 BR6 HZ6 X6 ⊢
                have HF6 := Lib.hid fun (w' : World) (hs : Since W6 w') => implYardFind_any h0 (.slice a4 vv.length c4) vv x w' (HZ6.out.keep hs)
                have HT6 := Lib.hid fun (w' : World) (hs : Since W6 w') => implYardTake_any h0 (.slice a4 vv.length c4) vv f w' (HZ6.out.keep hs)
                unfold TakeYGivesF at HT6
                rw [hfi] at HF6
                rw [htk] at HT6
                obtain ⟨hb6, m6⟩ := OC.out W6 BR6.out
                have CELL := Lib.hid fun (w' : World) (hs : Since W6 w') => (show w'.cell? ⟨X, 0, none⟩ = some (.int .i64 h0) ∧ w'.cell? ⟨X, 1, none⟩ = some (.slice a4 vv.length c4) ∧ w'.cell? ⟨b, off + k, none⟩ = some (.int .i64 x) ∧ Since W6 w' from ⟨(X6.out.keep hs).c0, (X6.out.keep hs).c1, (Below.cell hs (p := ⟨b, off + k, none⟩) hb6).trans m6, hs⟩)
                have hstart := CELL.out _ (show Since W6 W6.drew from (Below.refl _ _).drew)
                clear m6 hfi htk
                go_wp2_with fail
                go_region_held3 (fun w' => w'.cell? ⟨X, 0, none⟩ = some (.int .i64 h0) ∧ w'.cell? ⟨X, 1, none⟩ = some (.slice a4 vv.length c4) ∧ w'.cell? ⟨b, off + k, none⟩ = some (.int .i64 x) ∧ Since W6 w')
                  (first | exact hstart | exact CELL.out _ (Since.call (by exact (‹_ ∧ _› : _ ∧ _ ∧ _ ∧ Since W6 _).2.2.2) ‹_›))
                  (first
                    | (go_at_call 25; ((with_reducible refine (HF6.out _ (by exact (‹_ ∧ _› : _ ∧ _ ∧ _ ∧ Since W6 _).2.2.2)).mono ?_); rintro e w7 ⟨rfl, b7⟩))
                    | fail)
                rename_i hheld
                have s7 : Below W6.heap.size W6 w7 := hheld.2.2.2
                have x0 := hheld.1
                have x1 := hheld.2.1
                have LS7' := Lib.hid (LS6.out.keep s7)
                have BR7 := Lib.hid (BR6.out.trans (s7.mono BR6.out.size))
                have HT7 := Lib.hid (HT6.out w7 s7)
                clear hheld hstart CELL HF6 HT6 b7 s7 LS6 BR6 HZ6 X6
                go_wp2_with fail
                refine HT7.out.mono ?_
                rintro e w8 ⟨u8, rfl, n8, b8⟩
                have n8' : NewY w7.heap.size w8 u8 uu := FreeY.newY n8
                obtain ⟨a8, c8, rfl⟩ := n8'.form
                have b9 : Below w8.heap.size w8 (w8.alloc (.cells #[.int .i64 h0, .slice a8 uu.length c8] 25)) := (Below.refl _ _).alloc (Nat.le_refl _) _
                have b89 := b8.trans (b9.mono b8.size)
                have hgl := LS7'.out.at_.2.1
                have hNl := LS7'.out.box.lt
                have hNK := LS7'.out.low
                have LS8 := LS7'.out.keep b89
                have LS7 := Lib.hid (LS8.take (h' := h0) (StayO.of_new (o := some g) (n8'.keep b9) hNl (fun k hk => by have := Option.some.inj hk; omega)))
                have BR8 := Lib.hid (((BR7.out.trans (b89.mono BR7.out.size)).setCell (p := ⟨N, 0, none⟩) hNK (.int .i64 h0)).setCell (p := ⟨N, 1, none⟩) hNK (.slice a8 uu.length c8))
                have Z8 := BoxY.new w8 h0 (.slice a8 uu.length c8)
                have za := Z8.c0
                have zb := Z8.c1
                have na := LS8.box.c0
                have nb := LS8.box.c1
                have ea := LS8.box.frozen 0
                have eb := LS8.box.frozen 1
                clear n8 n8' b8 b9 b89 LS8 Z8 LS7' BR7 HT7 x0 x1 hgl
                go_upto_region 30 with fail
                generalize hW9 : ((w8.alloc (.cells #[.int .i64 h0, .slice a8 uu.length c8] 25)).setCell ⟨N, 0, none⟩ (.int .i64 h0)).setCell ⟨N, 1, none⟩ (.slice a8 uu.length c8) = W9 at LS7 BR8 ⊢
                clear hW9 za zb na nb ea eb
                
                have A8 := Lib.hid fun o : Obj => (Below.refl W9.heap.size W9).alloc (Nat.le_refl _) o
                have O8 := Lib.hid fun o : Obj => (LS7.out.keep (A8.out o)).own
                have HSZ := Lib.hid fun o : Obj => (LS7.out.keep (A8.out o)).size
                have HCN := Lib.hid fun j u hj => cells_new (w := W9) (cs := [Value.int .i64 (f : Int), .int .i64 (-1)]) (T := 41) j u hj
                go_wp2_with (at_builtin; refine wpList_append_lies _ rfl _ _ 46 rfl w5.heap.size 41 i0 (.agg #[.int .i64 0, .int .i64 0]) 2 16 Try.underlying46 MI.out MZ0.out MZ1.out MZ2.out rfl (by decide) _ l.length (rowM l) rfl (O8.out _) ⟨W9.heap.size, 0, none⟩ 1 1 [.int .i64 (f : Int), .int .i64 (-1)] rfl rfl HCN.out (by simp [Value.oneCell']) (by decide) (by unfold maxLen; omega) (by omega) (HSZ.out _) _ rfl ?_; intro g9 c9 w9 ho9 hg9 hgg9 _; have PS := Lib.hid ((LS7.out.keep (A8.out _)).push (m := [((f : Int), (-1))]) ho9 rfl rfl hg9 hgg9); clear ho9 hg9 hgg9)
                
                have BR9 := Lib.hid ((BR8.out.trans ((A8.out _).mono BR8.out.size)).trans PS.out.2)
                go_roundw
                case rel => exact ⟨k + 1, _, g9, c9, l ++ [((f : Int), -1)], _, uu, by omega, by rw [List.length_append]; show l.length + 1 ≤ 6 + 5 * (k + 1); omega, by go_num, by rw [List.length_append]; rfl, Lib.hid PS.out.1, Lib.hid (by have := ST9.out; rw [List.append_nil] at this; exact this), BR9⟩
                case measure => simp [intOf]; omega
              · obtain ⟨b', off', hk', rfl, -, -, -⟩ := HD5.out.at_ (k := 0) hd0
                have HRW := Lib.hid fun j u hj => HoldsM.row HD5.out j u hj
                have hown := Lib.hid LS5.out.own
                have hsz5 := LS5.out.size
                go_wp2_with (at_builtin; refine wpList_append_lies _ rfl _ _ 46 rfl w5.heap.size 41 i0 (.agg #[.int .i64 0, .int .i64 0]) 2 16 Try.underlying46 MI.out MZ0.out MZ1.out MZ2.out rfl (by decide) _ l.length (rowM l) rfl hown.out ⟨b', off', none⟩ d.length dc (rowM d) rfl (rowM_len d) HRW.out (rowM_one d) hd0 (by unfold maxLen; omega) (by omega) hsz5 _ rfl ?_; intro g6 c6 W6 ho6 hg6 hgg6 hl6; have PS := Lib.hid (LS5.out.push (m := d) ho6 rfl rfl hg6 hgg6); have G6 := Lib.hid (show W5.grownBy W6 (Value.slice (some ⟨g, 0, none⟩) l.length c).ownBlock from hg6); clear ho6 hg6 hgg6)
                have blk : ∀ k, k < W5.heap.size → g ≠ k → W6.heap[k]? = W5.heap[k]? := fun k hk hne => G6.out.block k hk (fun e => hne (by simpa [Value.ownBlock] using e.symm))
                have hXl := X5.out.lt
                have hsz := G6.out.size
                have X6 := Lib.hid (X5.out.at_ (blk X hXl hZg))
                have HZ6 := Lib.hid (SZ5.out W6 hsz fun k hk h1 h2 => blk k hk (fun e => h2 (by rw [e])))
                have hl6 : (l ++ d).length = l.length + d.length := List.length_append
                have LS6 := Lib.hid PS.out.1
                have BR6 := Lib.hid (BR5.out.trans PS.out.2)
                obtain ⟨l6, hl6'⟩ : ∃ l6, l6 = l ++ d := ⟨_, rfl⟩
                have ST6 : Hid (BlkSt h0 ss os (k + 1) (M + d.length) uu (l6 ++ [((f : Int), -1)])) := by rw [hl6']; exact ST9
                rw [← hl6'] at hl6 LS6
                rw [← hl6]
                have hl6b : l6.length ≤ l.length + d.length := Nat.le_of_eq hl6
                clear hl6
                clear LS5 BR5 HZ5 X5 SZ5 HD5 HRW hown PS G6 blk hXl hsz hl6' ST9
                have HF6 := Lib.hid fun (w' : World) (hs : Since W6 w') => implYardFind_any h0 (.slice a4 vv.length c4) vv x w' (HZ6.out.keep hs)
                have HT6 := Lib.hid fun (w' : World) (hs : Since W6 w') => implYardTake_any h0 (.slice a4 vv.length c4) vv f w' (HZ6.out.keep hs)
                unfold TakeYGivesF at HT6
                rw [hfi] at HF6
                rw [htk] at HT6
                obtain ⟨hb6, m6⟩ := OC.out W6 BR6.out
                have CELL := Lib.hid fun (w' : World) (hs : Since W6 w') => (show w'.cell? ⟨X, 0, none⟩ = some (.int .i64 h0) ∧ w'.cell? ⟨X, 1, none⟩ = some (.slice a4 vv.length c4) ∧ w'.cell? ⟨b, off + k, none⟩ = some (.int .i64 x) ∧ Since W6 w' from ⟨(X6.out.keep hs).c0, (X6.out.keep hs).c1, (Below.cell hs (p := ⟨b, off + k, none⟩) hb6).trans m6, hs⟩)
                have hstart := CELL.out _ (show Since W6 W6.drew from (Below.refl _ _).drew)
                clear m6 hfi htk
                go_wp2_with fail
                go_region_held3 (fun w' => w'.cell? ⟨X, 0, none⟩ = some (.int .i64 h0) ∧ w'.cell? ⟨X, 1, none⟩ = some (.slice a4 vv.length c4) ∧ w'.cell? ⟨b, off + k, none⟩ = some (.int .i64 x) ∧ Since W6 w')
                  (first | exact hstart | exact CELL.out _ (Since.call (by exact (‹_ ∧ _› : _ ∧ _ ∧ _ ∧ Since W6 _).2.2.2) ‹_›))
                  (first
                    | (go_at_call 25; ((with_reducible refine (HF6.out _ (by exact (‹_ ∧ _› : _ ∧ _ ∧ _ ∧ Since W6 _).2.2.2)).mono ?_); rintro e w7 ⟨rfl, b7⟩))
                    | fail)
                rename_i hheld
                have s7 : Below W6.heap.size W6 w7 := hheld.2.2.2
                have x0 := hheld.1
                have x1 := hheld.2.1
                have LS7' := Lib.hid (LS6.out.keep s7)
                have BR7 := Lib.hid (BR6.out.trans (s7.mono BR6.out.size))
                have HT7 := Lib.hid (HT6.out w7 s7)
                clear hheld hstart CELL HF6 HT6 b7 s7 LS6 BR6 HZ6 X6
                go_wp2_with fail
                refine HT7.out.mono ?_
                rintro e w8 ⟨u8, rfl, n8, b8⟩
                have n8' : NewY w7.heap.size w8 u8 uu := FreeY.newY n8
                obtain ⟨a8, c8, rfl⟩ := n8'.form
                have b9 : Below w8.heap.size w8 (w8.alloc (.cells #[.int .i64 h0, .slice a8 uu.length c8] 25)) := (Below.refl _ _).alloc (Nat.le_refl _) _
                have b89 := b8.trans (b9.mono b8.size)
                have hgl := LS7'.out.at_.2.1
                have hNl := LS7'.out.box.lt
                have hNK := LS7'.out.low
                have LS8 := LS7'.out.keep b89
                have LS7 := Lib.hid (LS8.take (h' := h0) (StayO.of_new (o := some g6) (n8'.keep b9) hNl (fun k hk => by have := Option.some.inj hk; omega)))
                have BR8 := Lib.hid (((BR7.out.trans (b89.mono BR7.out.size)).setCell (p := ⟨N, 0, none⟩) hNK (.int .i64 h0)).setCell (p := ⟨N, 1, none⟩) hNK (.slice a8 uu.length c8))
                have Z8 := BoxY.new w8 h0 (.slice a8 uu.length c8)
                have za := Z8.c0
                have zb := Z8.c1
                have na := LS8.box.c0
                have nb := LS8.box.c1
                have ea := LS8.box.frozen 0
                have eb := LS8.box.frozen 1
                clear n8 n8' b8 b9 b89 LS8 Z8 LS7' BR7 HT7 x0 x1 hgl
                go_upto_region 30 with fail
                generalize hW9 : ((w8.alloc (.cells #[.int .i64 h0, .slice a8 uu.length c8] 25)).setCell ⟨N, 0, none⟩ (.int .i64 h0)).setCell ⟨N, 1, none⟩ (.slice a8 uu.length c8) = W9 at LS7 BR8 ⊢
                clear hW9 za zb na nb ea eb
                
                have A8 := Lib.hid fun o : Obj => (Below.refl W9.heap.size W9).alloc (Nat.le_refl _) o
                have O8 := Lib.hid fun o : Obj => (LS7.out.keep (A8.out o)).own
                have HSZ := Lib.hid fun o : Obj => (LS7.out.keep (A8.out o)).size
                have HCN := Lib.hid fun j u hj => cells_new (w := W9) (cs := [Value.int .i64 (f : Int), .int .i64 (-1)]) (T := 41) j u hj
                go_wp2_with (at_builtin; refine wpList_append_lies _ rfl _ _ 46 rfl w5.heap.size 41 i0 (.agg #[.int .i64 0, .int .i64 0]) 2 16 Try.underlying46 MI.out MZ0.out MZ1.out MZ2.out rfl (by decide) _ l6.length (rowM l6) rfl (O8.out _) ⟨W9.heap.size, 0, none⟩ 1 1 [.int .i64 (f : Int), .int .i64 (-1)] rfl rfl HCN.out (by simp [Value.oneCell']) (by decide) (by unfold maxLen; omega) (by omega) (HSZ.out _) _ rfl ?_; intro g9 c9 w9 ho9 hg9 hgg9 _; have PS := Lib.hid ((LS7.out.keep (A8.out _)).push (m := [((f : Int), (-1))]) ho9 rfl rfl hg9 hgg9); clear ho9 hg9 hgg9)
                
                have BR9 := Lib.hid ((BR8.out.trans ((A8.out _).mono BR8.out.size)).trans PS.out.2)
                go_roundw
                case rel => exact ⟨k + 1, _, g9, c9, l6 ++ [((f : Int), -1)], _, uu, by omega, by rw [List.length_append]; show l6.length + 1 ≤ 6 + 5 * (k + 1); omega, by go_num, by rw [List.length_append]; rfl, Lib.hid PS.out.1, ST6, BR9⟩
                case measure => simp [intOf]; omega
          · obtain rfl : k = p := by omega
            have hlast := HLS.out M tt l ST.out
            have hge := HLW.out l M hlast
            have HV := Lib.hid (leaves_any h0 (.slice ua ss.length uc) (.slice (some ⟨g, 0, none⟩) l.length c) (.slice oa k oc) ss l os wr (HK.out wr BR.out) (HoldsM.of_own LS.out.own) (OK.out wr BR.out) (by omega))
            rw [hlast] at HV
            have ya := (YK.out wr BR.out).c0
            have yb := (YK.out wr BR.out).c1
            have C9 := CK.out wr BR.out
            clear LS ST BR HLS HLW hlast
            go_wp2_with fail
            refine HV.out.mono ?_
            rintro e w9 ⟨rfl, b9⟩
            go_wp2_with fail
            go_ret
            exact ⟨by first | rfl | simp [hge], C9.trans (b9.mono C9.size)⟩

set_option maxRecDepth 100000 in
set_option maxHeartbeats 2000000 in
/-- What the walk gives, for every argument. -/
theorem contract (H : Type) (enc : TypeId × Value → H) (W : World) (base : Nat) (args : Array Value) (ds gs : List (DataW H)) (before : List MemPlace)
    (hval : ∀ (j : Nat) t v, Try.f11.params[j]? = some t → args[j]? = some v → Value.okWide Try.prog W .any base t v)
    (hW : DataW.Whole enc Try.prog Try.f11.params.toList Rows.fnBlockingSpec.vars false W args.toList ds gs before) :
    Calls Try.prog 11 args W fun e W' => ∃ v, e = .returned v ∧ Rows.fnBlockingSpec.post enc Try.prog Try.f11 false true false false W args v W' := by
  have hW' := hW
  obtain ⟨p, q, hA0, hV, rfl, hfz, hnd⟩ := hW
  have hA : DataW.TrodAll enc Try.prog W 0 (fun _ => true) true Try.f11.params.toList args.toList ds p := hA0
  rw [Try.params11] at hA hval
  obtain ⟨v0, vs0, d0, ds0, p0, q0, hargs, rfl, rfl, h0, r0⟩ := trodAll_cons hA
  obtain ⟨v1, vs1, d1, ds1, p1, q1, rfl, rfl, rfl, h1, r1⟩ := trodAll_cons r0
  obtain ⟨rfl, rfl, rfl⟩ := trodAll_nil r1
  obtain rfl : args = #[v0, v1] := by cases args; simp_all
  obtain ⟨rfl, rfl⟩ := trodVars_none hV
  have k0 := h0
  have lt0 : ∀ x ∈ p0, x.block < W.heap.size := by obtain ⟨m, hm⟩ := k0; exact DataW.trod_lt m _ _ _ hm
  obtain ⟨a0, len0, cap0, rfl⟩ := okWide_slice Try.underlying22 (hval 0 22 v0 rfl rfl)
  obtain ⟨z0, x0⟩ : ∃ zs, IsRow .u8 W a0 len0 cap0 zs := by
    obtain ⟨fuel, hf⟩ := h0
    rcases open_ints Try.underlying22 Try.underlying5 (by kernel_rfl) hf with ⟨hcs, _⟩ | ⟨x, l, c, zs, hcs, _, hl, hm, hz, _, hcell, hwz⟩
    · simp [Value.cells] at hcs
      obtain ⟨rfl, rfl, rfl⟩ := hcs
      exact ⟨[], .inl ⟨rfl, rfl, rfl, rfl⟩⟩
    · simp [Value.cells] at hcs
      obtain ⟨rfl, rfl, rfl⟩ := hcs
      exact ⟨zs, .inr ⟨_, rfl, hl, hm, by simpa using hz, hcell, hwz⟩⟩
  have k1 := h1
  have lt1 : ∀ x ∈ p1, x.block < W.heap.size := by obtain ⟨m, hm⟩ := k1; exact DataW.trod_lt m _ _ _ hm
  obtain ⟨a1, len1, cap1, rfl⟩ := okWide_slice Try.underlying22 (hval 1 22 v1 rfl rfl)
  obtain ⟨z1, x1⟩ : ∃ zs, IsRow .u8 W a1 len1 cap1 zs := by
    obtain ⟨fuel, hf⟩ := h1
    rcases open_ints Try.underlying22 Try.underlying5 (by kernel_rfl) hf with ⟨hcs, _⟩ | ⟨x, l, c, zs, hcs, _, hl, hm, hz, _, hcell, hwz⟩
    · simp [Value.cells] at hcs
      obtain ⟨rfl, rfl, rfl⟩ := hcs
      exact ⟨[], .inl ⟨rfl, rfl, rfl, rfl⟩⟩
    · simp [Value.cells] at hcs
      obtain ⟨rfl, rfl, rfl⟩ := hcs
      exact ⟨zs, .inr ⟨_, rfl, hl, hm, by simpa using hz, hcell, hwz⟩⟩
  clear hA0
  refine (walk a0 len0 cap0 a1 len1 cap1 W (row8_of x0) (row8_of x1)).mono fun e W' ⟨he, bel⟩ => ?_
  subst he
  exact ⟨_, rfl, _, _, _, [], _, [], hW', trodAll_mk1 (shut_bool Try.underlying4 _), (trodAll_cons_mk (Below.trod laidOut (by kernel_rfl) (of_decide_eq_true (by kernel_rfl)) k0 bel lt0) (trodAll_cons_mk (Below.trod laidOut (by kernel_rfl) (of_decide_eq_true (by kernel_rfl)) k1 bel lt1) trodAll_mk0)), rfl, bel.frame _, fun h => by cases h⟩

set_option maxRecDepth 100000 in
theorem lifted (os : Os) (started : os.Started) (H : Type) (enc : TypeId × Value → H) :
    ReturnsInHanded {} Try.checked os 11 .any (Rows.fnBlockingSpec.pre6 enc Try.prog Try.f11 Rows.fnBlockingRow.domain false) (Rows.fnBlockingSpec.post enc Try.prog Try.f11 false true false false) := by
  refine returnsInHanded_of_change (C := Try.checked) own started (by kernel_rfl) Try.func11
    (ChangeSpec.witness6 (enc := enc) (C := Try.checked) false ⟨#[], #[.slice none 0 0, .slice none 0 0], []⟩ 8 (by kernel_rfl) (by kernel_rfl) (by kernel_rfl) (by kernel_rfl)) ?_
  intro W base args ds gs before hval hW _ _
  exact contract H enc W base args ds gs before hval hW

theorem proved : Rows.FnBlockingSaid :=
  OpenClaim.holds_of_wide 11 Try.f11 rfl rfl rfl rfl rfl rfl rfl ⟨rfl, rfl, rfl, rfl, rfl⟩ rfl rfl rfl rfl rfl (by kernel_rfl) Try.func11 (by kernel_rfl)
    (of_decide_eq_true (by kernel_rfl)) (by unfold Func.isWrapper; first | (rw [if_pos (by decide +kernel)]; kernel_rfl) | (rw [if_neg (by decide +kernel)]; exact ⟨rfl, rfl⟩))
    (fun os started H enc _ => lifted os started H enc)
#print axioms proved
end Go.Proofs.Ytlcfldmiibjboaa.fnBlocking
