/-
  For every yard and every move the law on YardMove's exact answer returns true and leaves its arguments as they were: the program's YardMove and the model's give the same, the program's writes nothing of its arguments, and what it gives is shared with nothing. Conditions: none beyond the form's own reach.
-/
import Derived.Test.YtlcfldmiibjboaaRows
import Derived.Test.YtlcfldmiibjboaaGBase
import Derived.WalkKit
import Derived.ProofKit
import Derived.OpenShut
import Derived.ShutString
import Derived.ChangeOld
import Derived.Below
import Derived.Test.YtlcfldmiibjboaaYbOpen
import Derived.Test.YtlcfldmiibjboaaYlA
import Derived.Test.YtlcfldmiibjboaaGYh
import Derived.Test.YtlcfldmiibjboaaGYl
import Derived.Test.YtlcfldmiibjboaaYsM
import Derived.Test.YtlcfldmiibjboaaYiM
import Derived.Test.YtlcfldmiibjboaaYlM
namespace Go.Proofs.Ytlcfldmiibjboaa.fnExactYardMove
open Go.ChangeShapes Go.WideShapes Go.ChangeAt Go.RowKit
open Go.ChangeMaps (open_string shut_string)
set_option linter.unusedVariables false


theorem small_of {h : Int} {rr : List (List Int)} (hk : rr = [] ∨ ydOk h rr = true) : rr.length ≤ 1048576 ∧ rr.flatten.length ≤ 1048576 := by
  rcases hk with rfl | hk
  · simp
  · obtain ⟨_, _, _, h5, _⟩ := ydOk_iff.1 hk
    have := flat_size (fun k hl => ydOk_row hk hl) h5
    omega
theorem small' (h : Int) (ss : List (List Int)) (f t : Int) : (moveY h ss f t).1.2 = [] ∨ ydOk h (moveY h ss f t).1.2 = true := by
  rcases moveY_cases h ss f t with ⟨_, e⟩ | ⟨hk, e⟩ | ⟨_, tt, e, hk, _⟩ <;> rw [e]
  · exact .inl rfl
  · exact .inr hk
  · exact .inr hk
/-- The law's own move in its box. -/
def ArgM (B : Nat) (w : World) (f t : Int) : Prop := w.heap[B]? = some (.cells #[.int .i64 f, .int .i64 t] 55 (0, 0))
theorem ArgM.lt {B : Nat} {w : World} {f t : Int} (hb : ArgM B w f t) : B < w.heap.size := free_lt hb
theorem ArgM.c0 {B : Nat} {w : World} {f t : Int} (hb : ArgM B w f t) : w.cell? ⟨B, 0, none⟩ = some (.int .i64 f) := by
  unfold ArgM at hb
  simp [World.cell?, hb]
theorem ArgM.c1 {B : Nat} {w : World} {f t : Int} (hb : ArgM B w f t) : w.cell? ⟨B, 1, none⟩ = some (.int .i64 t) := by
  unfold ArgM at hb
  simp [World.cell?, hb]
theorem ArgM.keep {B : Nat} {w w' : World} {f t : Int} (hb : ArgM B w f t) (hk : Below w.heap.size w w') : ArgM B w' f t := by
  have := hb.lt
  unfold ArgM at hb ⊢
  rw [hk.block B this]; exact hb
theorem ArgM.under {A K : Nat} {w w' : World} {f t : Int} (hb : ArgM A w f t) (hk : Below K w w') (hA : A < K) : ArgM A w' f t := by
  unfold ArgM at hb ⊢
  rw [hk.block A hA]; exact hb
/-- The yard that a call gave, laid in a block: made behind the call, or ahead of it. -/
theorem laidA {w0 w6 : World} {h' : Int} {t' : List (List Int)} {u : Value} {ok : Bool} (n6 : HoldsY w6 u t') (b6 : Below w0.heap.size w0 w6) :
    ∃ (Bn : Nat) (u' : Value), Value.pointer (some ⟨w6.heap.size, 0, none⟩) = .pointer (some ⟨Bn, 0, none⟩) ∧ Value.bool ok = .bool ok ∧ Hid (BoxY Bn (w6.alloc (.cells #[.int .i64 h', u] 25)) h' u') ∧ Hid (HoldsY (w6.alloc (.cells #[.int .i64 h', u] 25)) u' t') ∧ Hid (Below w0.heap.size w0 (w6.alloc (.cells #[.int .i64 h', u] 25))) :=
  ⟨w6.heap.size, u, rfl, rfl, Lib.hid (BoxY.new _ _ _), Lib.hid (n6.keep ((Below.refl _ _).alloc (Nat.le_refl _) _)), Lib.hid (b6.alloc b6.size _)⟩
theorem laidB {w0 w6 : World} {Bn K : Nat} {h' h0 : Int} {t' : List (List Int)} {u v0 : Value} {ok : Bool} (n6 : NewY K w6 u t') (g6 : BoxY Bn w6 h0 v0) (hB : Bn < K) (hw : w0.heap.size ≤ Bn) (b6 : Below w0.heap.size w0 w6) :
    ∃ (Bn' : Nat) (u' : Value), Value.pointer (some ⟨Bn, 0, none⟩) = .pointer (some ⟨Bn', 0, none⟩) ∧ Value.bool ok = .bool ok ∧ Hid (BoxY Bn' ((w6.setCell ⟨Bn, 0, none⟩ (.int .i64 h')).setCell ⟨Bn, 1, none⟩ u) h' u') ∧ Hid (HoldsY ((w6.setCell ⟨Bn, 0, none⟩ (.int .i64 h')).setCell ⟨Bn, 1, none⟩ u) u' t') ∧ Hid (Below w0.heap.size w0 ((w6.setCell ⟨Bn, 0, none⟩ (.int .i64 h')).setCell ⟨Bn, 1, none⟩ u)) :=
  ⟨Bn, u, rfl, rfl, Lib.hid ((g6.set0 h').set1 u), Lib.hid ((n6.setLow hB 0 _).setLow hB 1 _).holds, Lib.hid ((b6.setCell (p := ⟨Bn, 0, none⟩) hw _).setCell (p := ⟨Bn, 1, none⟩) hw _)⟩
/-- The same of a yard whose rows can be written. -/
def LaidF (w0 wx : World) (Bn : Nat) (u' : Value) (t' : List (List Int)) : Prop := ∃ Kz Bz, FreeY Kz Bz wx u' t'.length (rowAt t') ∧ w0.heap.size ≤ Kz ∧ Bz ≤ wx.heap.size ∧ (Bn < Kz ∨ Bz ≤ Bn) ∧ w0.heap.size ≤ Bn ∧ Kz ≤ Bz
theorem laidFA {w0 wc w6 : World} {h' : Int} {t' : List (List Int)} {u : Value} {ok : Bool} (n6 : FreeY wc.heap.size w6.heap.size w6 u t'.length (rowAt t')) (hw : w0.heap.size ≤ wc.heap.size) (hs : wc.heap.size ≤ w6.heap.size) (b6 : Below w0.heap.size w0 w6) :
    ∃ (Bn : Nat) (u' : Value), Value.pointer (some ⟨w6.heap.size, 0, none⟩) = .pointer (some ⟨Bn, 0, none⟩) ∧ Value.bool ok = .bool ok ∧ Hid (BoxY Bn (w6.alloc (.cells #[.int .i64 h', u] 25)) h' u') ∧ Hid (LaidF w0 (w6.alloc (.cells #[.int .i64 h', u] 25)) Bn u' t') ∧ Hid (Below w0.heap.size w0 (w6.alloc (.cells #[.int .i64 h', u] 25))) :=
  ⟨w6.heap.size, u, rfl, rfl, Lib.hid (BoxY.new _ _ _), Lib.hid ⟨_, _, n6.keep ((Below.refl _ _).alloc (Nat.le_refl _) _), hw, by simp, .inr (Nat.le_refl _), b6.size, hs⟩, Lib.hid (b6.alloc b6.size _)⟩
theorem laidFB {w0 wc w6 : World} {Bn : Nat} {h' h0 : Int} {t' : List (List Int)} {u v0 : Value} {ok : Bool} (n6 : FreeY wc.heap.size w6.heap.size w6 u t'.length (rowAt t')) (g6 : BoxY Bn w6 h0 v0) (hB : Bn < wc.heap.size) (hw : w0.heap.size ≤ Bn) (hs : wc.heap.size ≤ w6.heap.size) (b6 : Below w0.heap.size w0 w6) :
    ∃ (Bn' : Nat) (u' : Value), Value.pointer (some ⟨Bn, 0, none⟩) = .pointer (some ⟨Bn', 0, none⟩) ∧ Value.bool ok = .bool ok ∧ Hid (BoxY Bn' ((w6.setCell ⟨Bn, 0, none⟩ (.int .i64 h')).setCell ⟨Bn, 1, none⟩ u) h' u') ∧ Hid (LaidF w0 ((w6.setCell ⟨Bn, 0, none⟩ (.int .i64 h')).setCell ⟨Bn, 1, none⟩ u) Bn' u' t') ∧ Hid (Below w0.heap.size w0 ((w6.setCell ⟨Bn, 0, none⟩ (.int .i64 h')).setCell ⟨Bn, 1, none⟩ u)) :=
  ⟨Bn, u, rfl, rfl, Lib.hid ((g6.set0 h').set1 u), Lib.hid ⟨_, _, (n6.setLow hB 0 _).setLow hB 1 _, by omega, by simp [World.setCell], .inl hB, hw, hs⟩, Lib.hid ((b6.setCell (p := ⟨Bn, 0, none⟩) hw _).setCell (p := ⟨Bn, 1, none⟩) hw _)⟩
theorem BoxY.midE {A K B : Nat} {w w' : World} {h : Int} {v : Value} (hb : BoxY A w h v) (hm : MidB K B w w') (hA : A < K ∨ B ≤ A) : BoxY A w' h v := by
  have hl := hb.lt
  unfold BoxY at hb ⊢
  rw [hm.block A hA hl]; exact hb

set_option maxRecDepth 10000 in
set_option maxHeartbeats 8000000 in
theorem walk (h0 : Int) (u0 : Value) (ss : List (List Int)) (f1 t1 : Int) (w : World) (w0 : HoldsY w u0 ss) :
    Calls Try.prog 9 #[.agg #[.int .i64 h0, u0], .agg #[.int .i64 f1, .int .i64 t1]] w fun e w' => e = .returned (.bool true) ∧ Below w.heap.size w w' := by
  have SZ := Lib.hid fun w' (hb : Below w.heap.size w w') => szYard_any h0 u0 ss 1048576 w' (w0.keep hb) (by omega) (by omega)
  have GG := Lib.hid w0
  have hsz : szY 1048576 ss < 0 ∨ 0 ≤ szY 1048576 ss ∧ ss.length + ss.flatten.length ≤ 1048576 := by unfold szY; split <;> omega
  obtain ⟨a0, c0, rfl⟩ : ∃ a c, u0 = .slice a ss.length c := by obtain ⟨a, c, e, _⟩ := w0; exact ⟨a, c, e⟩
  clear w0
  generalize szY 1048576 ss = z at SZ hsz
  have bd : Below w.heap.size w ((w.alloc (.cells #[.int .i64 h0, .slice a0 ss.length c0] 50)).alloc (.cells #[.int .i64 f1, .int .i64 t1] 55)) := ((Below.refl w.heap.size w).alloc (Nat.le_refl _) _).alloc (by simp) _
  have y0 : ArgY w.heap.size ((w.alloc (.cells #[.int .i64 h0, .slice a0 ss.length c0] 50)).alloc (.cells #[.int .i64 f1, .int .i64 t1] 55)) h0 (.slice a0 ss.length c0) := two_lo _ _ _
  have m0 : ArgM (w.heap.size + 1) ((w.alloc (.cells #[.int .i64 h0, .slice a0 ss.length c0] 50)).alloc (.cells #[.int .i64 f1, .int .i64 t1] 55)) f1 t1 := two_hi _ _ _
  have BD := Lib.hid bd
  have Y0 := Lib.hid y0
  have M0 := Lib.hid m0
  clear bd y0 m0
  rcases hsz with hz | ⟨hz, gn⟩
  · go_enter Try.func9, Try.ntmps9
    go_wp2_with fail
    refine (SZ.out _ BD.out).mono ?_
    rintro e w1 ⟨rfl, b1⟩
    go_wp2_with fail
    go_ret
    exact ⟨rfl, BD.out.trans (b1.mono BD.out.size)⟩
  · have GT := Lib.hid fun w1 (b1 : Below w.heap.size w w1) => toYard_free h0 (.slice a0 ss.length c0) ss w1 (GG.out.keep b1) gn
    have HS := Lib.hid fun v w1 (g : HoldsY w1 v ss) => specYardMove_any h0 v ss f1 t1 w1 g (by omega)
    have HI := Lib.hid fun v w1 (g : HoldsY w1 v ss) => implYardMove_any h0 v ss f1 t1 w1 g
    have hsm := small_of (small' h0 ss f1 t1)
    unfold MoveYGives at HS
    unfold MoveYGivesF at HI
    generalize (moveY h0 ss f1 t1).1.1 = hr at HS HI
    generalize (moveY h0 ss f1 t1).1.2 = rr at HS HI hsm
    generalize (moveY h0 ss f1 t1).2 = ok at HS HI
    have hok : (ok != ok) = false := by cases ok <;> rfl
    have MY := Lib.hid fun v K B w (hf : FreeY K B w v ss.length (rowAt ss)) (hB : B ≤ w.heap.size) => markYard_free h0 v K B 1 ss w hf hB (by omega) (by omega)
    have MR := Lib.hid fun v K B w (hf : FreeY K B w v rr.length (rowAt rr)) (hB : B ≤ w.heap.size) => markYard_free hr v K B 1 rr w hf hB (by omega) (by omega)
    have HE := Lib.hid fun v w (h : HoldsY w v (marksY 1 rr)) => heldYard_marks hr v 1 rr w h (by omega)
    have q0 : (0 : Int) ≤ ((1 + ss.flatten.length : Nat) : Int) := by omega
    have q1 : (0 : Int) ≤ ((1 + rr.flatten.length : Nat) : Int) := by omega
    clear hsm gn
    generalize ((1 + ss.flatten.length : Nat) : Int) = Q at MY q0
    generalize ((1 + rr.flatten.length : Nat) : Int) = R at MR HE q1
    have hY : (R != R) = false := by simp
    go_enter Try.func9, Try.ntmps9
    go_wp2_with fail
    refine (SZ.out _ BD.out).mono ?_
    rintro e w0 ⟨rfl, b0⟩
    have HC0 := Lib.hid (BD.out.trans (b0.mono BD.out.size))
    have HY0 := Lib.hid (Y0.out.keep b0)
    have HM0 := Lib.hid (M0.out.keep b0)
    clear b0 Y0 M0 SZ BD
    go_upto_region 5 with fail
    generalize hA : w.heap.size = A at HY0 HM0 ⊢
    generalize hMB : A + 1 = MB at HM0 ⊢
    have HA := Lib.hid hA
    clear hA hMB
    go_cut [6, 7] from 21 to 28 (fun pv okv wx => ∃ (Bn : Nat) (u' : Value), pv = .pointer (some ⟨Bn, 0, none⟩) ∧ okv = .bool ok ∧ Hid (BoxY Bn wx hr u') ∧ Hid (HoldsY wx u' rr) ∧ Hid (Below w0.heap.size w0 wx))
    case first =>
      have CELL := Lib.hid fun (w' : World) (hs : Since w0 w') => (show w'.cell? ⟨A, 0, none⟩ = some (.int .i64 h0) ∧ w'.cell? ⟨A, 1, none⟩ = some (.slice a0 ss.length c0) ∧ w'.cell? ⟨MB, 0, none⟩ = some (.int .i64 f1) ∧ w'.cell? ⟨MB, 1, none⟩ = some (.int .i64 t1) ∧ Since w0 w' from ⟨(HY0.out.keep hs).c0, (HY0.out.keep hs).c1, (HM0.out.keep hs).c0, (HM0.out.keep hs).c1, hs⟩)
      have hstart := CELL.out _ (show Since w0 w0.drew from (Below.refl _ _).drew)
      have HST2 := Lib.hid fun o : Obj => CELL.out _ (show Since w0 (w0.alloc o).drew from ((Below.refl _ _).alloc (Nat.le_refl _) o).drew)
      have GTd := Lib.hid (GT.out w0.drew (HC0.out.trans (Below.mono ((Below.refl _ _).drew) HC0.out.size)))
      have GTa := Lib.hid (GT.out (w0.alloc (.cells #[.int .i64 0, .slice none 0 0] 25)).drew (HC0.out.trans (Below.mono (((Below.refl _ _).alloc (Nat.le_refl _) _).drew) HC0.out.size)))
      go_region_held3 (fun w' => w'.cell? ⟨A, 0, none⟩ = some (.int .i64 h0) ∧ w'.cell? ⟨A, 1, none⟩ = some (.slice a0 ss.length c0) ∧ w'.cell? ⟨MB, 0, none⟩ = some (.int .i64 f1) ∧ w'.cell? ⟨MB, 1, none⟩ = some (.int .i64 t1) ∧ Since w0 w')
        (first | exact hstart | exact HST2.out _ | exact CELL.out _ (Since.on (by exact (‹_ ∧ _› : _ ∧ _ ∧ _ ∧ _ ∧ Since w0 _).2.2.2.2) ‹Below w0.heap.size _ _›) | exact CELL.out _ (Since.call (by exact (‹_ ∧ _› : _ ∧ _ ∧ _ ∧ _ ∧ Since w0 _).2.2.2.2) ‹_›) | exact CELL.out _ (Since.alloc S11.out _) | exact CELL.out _ (Since.alloc (by exact (‹_ ∧ _› : _ ∧ _ ∧ _ ∧ _ ∧ Since w0 _).2.2.2.2) _) | exact CELL.out _ (Below.setCell (Below.setCell S11.out HB11.out.2 _) HB11.out.2 _) | fail)
        (first
          | (go_at_call 35; ((with_reducible refine GTd.out.mono ?_); rintro e w9 ⟨v9, rfl, g9, b9⟩; obtain ⟨p9, k9, rfl⟩ := FreeY.form g9; have K9 := Lib.hid fun w' (hs : Since w9 w') => (FreeY.holdsY g9).keep hs; have L9 : w0.heap.size ≤ w9.heap.size := b9.size; clear g9))
          | (go_at_call 35; ((with_reducible refine GTa.out.mono ?_); rintro e w9 ⟨v9, rfl, g9, b9⟩; obtain ⟨p9, k9, rfl⟩ := FreeY.form g9; have K9 := Lib.hid fun w' (hs : Since w9 w') => (FreeY.holdsY g9).keep hs; have BX9 := Lib.hid (((BoxY.new w0 0 (.slice none 0 0)).keep ((Below.refl _ _).drew)).keep b9); have LBN := Lib.hid (Nat.le_refl w0.heap.size); have L9 : w0.heap.size ≤ w9.heap.size := Nat.le_trans (by simp) b9.size; clear g9))
          | (go_at_call 39; ((with_reducible refine (toMove_any f1 t1 w9).mono ?_); rintro e w10 ⟨rfl, b10⟩; have BX10 := Lib.hid (BX9.out.keep b10); have S10 := Lib.hid (show Since w9 w10 from b10); have L10 := Nat.le_trans L9 b10.size))
          | (go_at_call 39; ((with_reducible refine (toMove_any f1 t1 w9).mono ?_); rintro e w10 ⟨rfl, b10⟩; have S10 := Lib.hid (show Since w9 w10 from b10); have L10 := Nat.le_trans L9 b10.size))
          | (go_at_call 39; ((with_reducible refine (toMove_any f1 t1 (w9.alloc (.cells #[.int .i64 0, .slice none 0 0] 25))).mono ?_); rintro e w10 ⟨rfl, b10⟩; have BX10 := Lib.hid ((BoxY.new w9 0 (.slice none 0 0)).keep b10); have LBN := Lib.hid L9; have S10 := Lib.hid (show Since w9 w10 from Below.trans ((Below.refl _ _).alloc (Nat.le_refl _) _) (b10.mono (by simp))); have L10 := Nat.le_trans L9 (Below.size S10.out)))
          | (go_at_call 28; ((with_reducible refine (HS.out _ w10 (K9.out _ S10.out)).mono ?_); rintro e w11 ⟨v11, rfl, n11, b11⟩; obtain ⟨p11, k11, rfl⟩ := NewY.form n11; have S11 := Lib.hid (show Since w0 w11 from Since.call (by exact (‹_ ∧ _› : _ ∧ _ ∧ _ ∧ _ ∧ Since w0 _).2.2.2.2) b11); have BX11 := Lib.hid (BX10.out.keep b11); have HB11 := Lib.hid (And.intro BX10.out.lt LBN.out); have d0 := BX11.out.c0; have d1 := BX11.out.c1; have e0 := BX11.out.frozen 0; have e1 := BX11.out.frozen 1; have B11 := b11.size; have N11 := Lib.hid n11; clear n11))
          | (go_at_call 28; ((with_reducible refine (HS.out _ w10 (K9.out _ S10.out)).mono ?_); rintro e w11 ⟨v11, rfl, n11, b11⟩; obtain ⟨p11, k11, rfl⟩ := NewY.form n11; have S11 := Lib.hid (show Since w0 w11 from Since.call (by exact (‹_ ∧ _› : _ ∧ _ ∧ _ ∧ _ ∧ Since w0 _).2.2.2.2) b11); have B11 := b11.size; have N11 := Lib.hid n11; clear n11))
          | (go_at_call 28; ((with_reducible refine (HS.out _ (w10.alloc (.cells #[.int .i64 0, .slice none 0 0] 25)) (K9.out _ (Since.alloc S10.out _))).mono ?_); rintro e w11 ⟨v11, rfl, n11, b11⟩; obtain ⟨p11, k11, rfl⟩ := NewY.form n11; have S11 := Lib.hid (show Since w0 w11 from Since.call (by exact (‹_ ∧ _› : _ ∧ _ ∧ _ ∧ _ ∧ Since w0 _).2.2.2.2) b11); have BX11 := Lib.hid ((BoxY.new w10 0 (.slice none 0 0)).keep b11); have HB11 := Lib.hid (And.intro (show w10.heap.size < (w10.alloc (.cells #[.int .i64 0, .slice none 0 0] 25)).heap.size by simp) L10); have d0 := BX11.out.c0; have d1 := BX11.out.c1; have e0 := BX11.out.frozen 0; have e1 := BX11.out.frozen 1; have B11 := b11.size; have N11 := Lib.hid n11; clear n11))
          | fail)
      all_goals
        go_wp2_with fail
        go_meet
        first
          | exact laidA N11.out.holds S11.out
          | exact laidB N11.out BX11.out HB11.out.1 HB11.out.2 S11.out
    case rest =>
      obtain ⟨S, u2, rfl, rfl, HB, HH, HL⟩ := hcut
      rename World => w3
      have C3 := HC0.out.trans (HL.out.mono HC0.out.size)
      have y3 := HY0.out.keep HL.out
      have j3 := HM0.out.keep HL.out
      have s3 := HB.out
      obtain ⟨p2, k2, rfl⟩ : ∃ a c, u2 = .slice a rr.length c := by obtain ⟨a, c, e, _⟩ := HH.out; exact ⟨a, c, e⟩
      have H2 := Lib.hid fun w' (hb : Below w3.heap.size w3 w') => HH.out.keep hb
      have hAK := y3.lt
      have hMK := j3.lt
      have hSK := s3.lt
      have hCK := C3.size
      clear HC0 HY0 HM0 HL HB HH
      have ya := y3.c0
      have yb := y3.c1
      go_wp2_with fail
      refine (GT.out w3 C3).mono ?_
      rintro e w4 ⟨v4, rfl, g4, b4⟩
      obtain ⟨p4, k4, rfl⟩ := g4.form
      have x5 := BoxY.new_ w4 w4 h0 (.slice p4 ss.length k4)
      have b5 : Below w4.heap.size w4 (w4.alloc (.cells #[.int .i64 h0, .slice p4 ss.length k4] 25)) := (Below.refl _ _).alloc (Nat.le_refl _) _
      have C5 := (C3.trans (b4.mono C3.size)).trans (b5.mono (C3.trans (b4.mono C3.size)).size)
      have D5 := b4.trans (b5.mono b4.size)
      have y5 := (y3.keep b4).keep b5
      have j5 := (j3.keep b4).keep b5
      have s5 := (s3.keep b4).keep b5
      have h5 := g4.keep b5
      clear y3 j3 s3 ya yb C3 b4 b5 g4
      generalize hW5 : w4.alloc (.cells #[.int .i64 h0, .slice p4 ss.length k4] 25) = W5 at x5 C5 y5 j5 s5 h5 D5
      have HW5 := Lib.hid hW5
      clear hW5
      go_upto_region 7 with fail
      rw [HW5.out]
      generalize w4.heap.size = X at x5 h5 ⊢
      clear HW5
      have hXN := Nat.le_of_lt x5.lt
      have hKN := D5.size
      have H0 := Lib.hid fun (w' : World) (hs : Since W5 w') => h5.holdsY.keep hs
      have HX5 := Lib.hid x5
      have HJ5 := Lib.hid j5
      have R5 := Lib.hid (And.intro C5 (And.intro D5 (And.intro y5 (And.intro s5 h5))))
      clear x5 j5 C5 D5 y5 s5 h5
      go_cut [9, 10] from 31 to 37 (fun pv okv wx => ∃ (Bn : Nat) (u' : Value), pv = .pointer (some ⟨Bn, 0, none⟩) ∧ okv = .bool ok ∧ Hid (BoxY Bn wx hr u') ∧ Hid (LaidF W5 wx Bn u' rr) ∧ Hid (Below W5.heap.size W5 wx))
      case first =>
        have CELL := Lib.hid fun (w' : World) (hs : Since W5 w') => (show w'.cell? ⟨X, 0, none⟩ = some (.int .i64 h0) ∧ w'.cell? ⟨X, 1, none⟩ = some (.slice p4 ss.length k4) ∧ w'.cell? ⟨MB, 0, none⟩ = some (.int .i64 f1) ∧ w'.cell? ⟨MB, 1, none⟩ = some (.int .i64 t1) ∧ Since W5 w' from ⟨(HX5.out.keep hs).c0, (HX5.out.keep hs).c1, (HJ5.out.keep hs).c0, (HJ5.out.keep hs).c1, hs⟩)
        have hstart := CELL.out _ (show Since W5 W5.drew from (Below.refl _ _).drew)
        have HST2 := Lib.hid fun o : Obj => CELL.out _ (show Since W5 (W5.alloc o).drew from ((Below.refl _ _).alloc (Nat.le_refl _) o).drew)
        go_region_held3 (fun w' => w'.cell? ⟨X, 0, none⟩ = some (.int .i64 h0) ∧ w'.cell? ⟨X, 1, none⟩ = some (.slice p4 ss.length k4) ∧ w'.cell? ⟨MB, 0, none⟩ = some (.int .i64 f1) ∧ w'.cell? ⟨MB, 1, none⟩ = some (.int .i64 t1) ∧ Since W5 w')
          (first | exact hstart | exact HST2.out _ | exact CELL.out _ (Since.on (by exact (‹_ ∧ _› : _ ∧ _ ∧ _ ∧ _ ∧ Since W5 _).2.2.2.2) ‹Below W5.heap.size _ _›) | exact CELL.out _ (Since.call (by exact (‹_ ∧ _› : _ ∧ _ ∧ _ ∧ _ ∧ Since W5 _).2.2.2.2) ‹_›) | exact CELL.out _ (Since.alloc S11.out _) | exact CELL.out _ (Since.alloc (by exact (‹_ ∧ _› : _ ∧ _ ∧ _ ∧ _ ∧ Since W5 _).2.2.2.2) _) | exact CELL.out _ (Below.setCell (Below.setCell S11.out HB11.out.2 _) HB11.out.2 _) | fail)
          (first
            | (go_at_call 39; ((with_reducible refine (toMove_any f1 t1 W5.drew).mono ?_); rintro e w10 ⟨rfl, b10⟩; have S10 := Lib.hid (show Since W5 w10 from Below.trans ((Below.refl _ _).drew) b10); have L10 := Below.size S10.out))
            | (go_at_call 39; ((with_reducible refine (toMove_any f1 t1 (W5.alloc (.cells #[.int .i64 0, .slice none 0 0] 25)).drew).mono ?_); rintro e w10 ⟨rfl, b10⟩; have BX10 := Lib.hid (((BoxY.new W5 0 (.slice none 0 0)).keep ((Below.refl _ _).drew)).keep b10); have LBN := Lib.hid (Nat.le_refl W5.heap.size); have S10 := Lib.hid (show Since W5 w10 from Below.trans (((Below.refl _ _).alloc (Nat.le_refl _) _).drew) (b10.mono (by simp))); have L10 := Below.size S10.out))
            | (go_at_call 27; ((with_reducible refine (HI.out _ w10 (H0.out _ S10.out)).mono ?_); rintro e w11 ⟨v11, rfl, n11, b11⟩; obtain ⟨p11, k11, rfl⟩ := FreeY.form n11; have S11 := Lib.hid (show Since W5 w11 from Since.call (by exact (‹_ ∧ _› : _ ∧ _ ∧ _ ∧ _ ∧ Since W5 _).2.2.2.2) b11); have BX11 := Lib.hid (BX10.out.keep b11); have HB11 := Lib.hid (And.intro BX10.out.lt LBN.out); have d0 := BX11.out.c0; have d1 := BX11.out.c1; have e0 := BX11.out.frozen 0; have e1 := BX11.out.frozen 1; have B11 := b11.size; have N11 := Lib.hid n11; clear n11))
            | (go_at_call 27; ((with_reducible refine (HI.out _ w10 (H0.out _ S10.out)).mono ?_); rintro e w11 ⟨v11, rfl, n11, b11⟩; obtain ⟨p11, k11, rfl⟩ := FreeY.form n11; have S11 := Lib.hid (show Since W5 w11 from Since.call (by exact (‹_ ∧ _› : _ ∧ _ ∧ _ ∧ _ ∧ Since W5 _).2.2.2.2) b11); have B11 := b11.size; have N11 := Lib.hid n11; clear n11))
            | (go_at_call 27; ((with_reducible refine (HI.out _ (w10.alloc (.cells #[.int .i64 0, .slice none 0 0] 25)) (H0.out _ (Since.alloc S10.out _))).mono ?_); rintro e w11 ⟨v11, rfl, n11, b11⟩; obtain ⟨p11, k11, rfl⟩ := FreeY.form n11; have S11 := Lib.hid (show Since W5 w11 from Since.call (by exact (‹_ ∧ _› : _ ∧ _ ∧ _ ∧ _ ∧ Since W5 _).2.2.2.2) b11); have BX11 := Lib.hid ((BoxY.new w10 0 (.slice none 0 0)).keep b11); have HB11 := Lib.hid (And.intro (show w10.heap.size < (w10.alloc (.cells #[.int .i64 0, .slice none 0 0] 25)).heap.size by simp) L10); have d0 := BX11.out.c0; have d1 := BX11.out.c1; have e0 := BX11.out.frozen 0; have e1 := BX11.out.frozen 1; have B11 := b11.size; have N11 := Lib.hid n11; clear n11))
            | fail)
        all_goals
          go_wp2_with fail
          go_meet
          first
            | exact laidFA N11.out L10 B11 S11.out
            | exact laidFB N11.out BX11.out HB11.out.1 HB11.out.2 B11 S11.out
      case rest =>
        obtain ⟨Z, u6, rfl, rfl, HB, HF, HL⟩ := hcut
        rename World => W7
        obtain ⟨Kz, Bz, f7, hNK, hBw, hZ, hNZ, hKB⟩ := HF.out
        obtain ⟨p6, k6, rfl⟩ := f7.form
        obtain ⟨C5, D5, y5, s5, h5⟩ := R5.out
        have C7 := C5.trans (HL.out.mono C5.size)
        have D7 := D5.trans (HL.out.mono D5.size)
        have y7 := y5.keep HL.out
        have j7 := HJ5.out.keep HL.out
        have s7 := s5.keep HL.out
        have x7 := HX5.out.keep HL.out
        have h7 := h5.keep HL.out
        have z7 := HB.out
        clear C5 D5 y5 s5 h5 HX5 HJ5 R5 HB HF HL H0
        generalize W5.heap.size = N at hXN hKN hNK hNZ
        have za := z7.c0
        have zb := z7.c1
        have sa := s7.c0
        have sb := s7.c1
        go_wp2_with fail
        refine (eqYard_same hr _ _ rr W7 f7.holdsY (H2.out W7 D7)).mono ?_
        rintro e w8 ⟨rfl, b8⟩
        have C8 := C7.trans (b8.mono C7.size)
        have D8 := D7.trans (b8.mono D7.size)
        have y8 := y7.keep b8
        have j8 := j7.keep b8
        have s8 := s7.keep b8
        have x8 := x7.keep b8
        have z8 := z7.keep b8
        have h8 := h7.keep b8
        have f8 := f7.keep b8
        have n8 := Nat.le_trans hBw b8.size
        clear C7 D7 y7 j7 s7 x7 z7 h7 f7 b8 za zb sa sb hBw
        go_wp2_with fail
        have CELL := Lib.hid fun (w' : World) (hs : Since w8 w') => two_yards y8 x8 hs
        have GT8 := Lib.hid fun (w' : World) (hs : Since w8 w') => GT.out w' (C8.trans (Below.mono hs C8.size))
        have H8 := Lib.hid fun (w' : World) (hs : Since w8 w') => h8.holdsY.keep hs
        have hstart := CELL.out _ (show Since w8 w8.drew from (Below.refl _ _).drew)
        have KEEP := Lib.hid (And.intro C8 (And.intro D8 (And.intro y8 (And.intro s8 (And.intro x8 (And.intro z8 (And.intro h8 (And.intro f8 j8))))))))
        clear y8 j8 s8 x8 z8 h8 f8 C8 D8
        go_region_held3 (fun w' => w'.cell? ⟨A, 0, none⟩ = some (.int .i64 h0) ∧ w'.cell? ⟨A, 1, none⟩ = some (.slice a0 ss.length c0) ∧ w'.cell? ⟨X, 0, none⟩ = some (.int .i64 h0) ∧ w'.cell? ⟨X, 1, none⟩ = some (.slice p4 ss.length k4) ∧ Since w8 w')
          (first | exact hstart | exact CELL.out _ (Since.on (by exact (‹_ ∧ _› : _ ∧ _ ∧ _ ∧ _ ∧ Since w8 _).2.2.2.2) ‹Below w8.heap.size _ _›) | exact CELL.out _ (Since.call (by exact (‹_ ∧ _› : _ ∧ _ ∧ _ ∧ _ ∧ Since w8 _).2.2.2.2) ‹_›))
          (first
            | (go_at_call 35; ((with_reducible refine (GT8.out _ (by exact (‹_ ∧ _› : _ ∧ _ ∧ _ ∧ _ ∧ Since w8 _).2.2.2.2)).mono ?_); rintro e w9 ⟨v9, rfl, g9, b9⟩; obtain ⟨p9, k9, rfl⟩ := FreeY.form g9; have H9 := Lib.hid (FreeY.holdsY g9); clear g9))
            | (go_at_call 36; ((with_reducible refine (eqYard_same h0 _ _ ss _ (H8.out _ (by exact (‹_ ∧ _› : _ ∧ _ ∧ _ ∧ _ ∧ Since w8 _).2.2.2.2)) H9.out).mono ?_); rintro e w10 ⟨rfl, b10⟩)))
        rename_i w10 hheld
        have hx := hheld.2.2.2.2
        clear hheld
        obtain ⟨C8, D8, y8, s8, x8, z8, h8, f8, j8⟩ := KEEP.out
        have C10 := C8.trans (Below.mono hx C8.size)
        have D10 := D8.trans (Below.mono hx D8.size)
        have y10 := y8.keep hx
        have j10 := j8.keep hx
        have s10 := s8.keep hx
        have x10 := x8.keep hx
        have z10 := z8.keep hx
        have h10 := h8.keep hx
        have f10 := f8.keep hx
        have n10 := Nat.le_trans n8 (Below.size hx)
        clear y8 j8 s8 x8 z8 h8 f8 C8 D8 hx KEEP CELL GT8 H8 H9 hstart n8
        have xa := x10.c0
        have xb := x10.c1
        go_wp2_with fail
        refine (MY.out _ _ _ w10 h10 (Nat.le_of_lt x10.lt)).mono ?_
        rintro e w11 ⟨rfl, -, m11⟩
        have b11 := m11.below D10.size
        have C11 := C10.trans (b11.mono hCK)
        have D11 := D10.trans b11
        have y11 := y10.under b11 hAK
        have j11 := j10.under b11 hMK
        have s11 := s10.under b11 hSK
        have f11 := f10.mid m11 (Nat.le_trans hXN hNK)
        have z11 := z10.mid m11 (Nat.le_trans hXN hNZ)
        have n11 := Nat.le_trans n10 m11.size
        clear y10 j10 s10 x10 z10 h10 f10 C10 D10 b11 m11 xa xb n10
        have sa := s11.c0
        have sb := s11.c1
        have za := z11.c0
        have zb := z11.c1
        go_wp2_with fail
        refine (eqYard_same hr _ _ rr w11 f11.holdsY (H2.out w11 D11)).mono ?_
        rintro e w12 ⟨rfl, b12⟩
        have C12 := C11.trans (b12.mono C11.size)
        have D12 := D11.trans (b12.mono D11.size)
        have y12 := y11.keep b12
        have j12 := j11.keep b12
        have s12 := s11.keep b12
        have z12 := z11.keep b12
        have f12 := f11.keep b12
        have n12 := Nat.le_trans n11 b12.size
        clear y11 j11 s11 z11 f11 C11 D11 b12 sa sb za zb n11
        have za := z12.c0
        have zb := z12.c1
        go_wp2_with fail
        refine (MR.out _ _ _ w12 f12 n12).mono ?_
        rintro e w13 ⟨rfl, m13, i13⟩
        have hKK := Nat.le_trans hKN hNK
        have b13 := i13.below (Nat.le_trans hKB n12)
        have C13 := C12.trans (b13.mono (Nat.le_trans hCK hKK))
        have D13 := D12.trans (b13.mono hKK)
        have y13 := y12.under b13 (Nat.lt_of_lt_of_le hAK hKK)
        have j13 := j12.under b13 (Nat.lt_of_lt_of_le hMK hKK)
        have s13 := s12.under b13 (Nat.lt_of_lt_of_le hSK hKK)
        have z13 := BoxY.midE z12 i13 hZ
        clear y12 j12 s12 z12 f12 C12 D12 b13 i13 za zb n12
        have za := z13.c0
        have zb := z13.c1
        go_wp2_with fail
        refine (HE.out _ w13 m13).mono ?_
        rintro e w14 ⟨rfl, b14⟩
        have HC14 := Lib.hid (C13.trans (b14.mono C13.size))
        have HD14 := Lib.hid (D13.trans (b14.mono D13.size))
        have HY14 := Lib.hid (y13.keep b14)
        have HJ14 := Lib.hid (j13.keep b14)
        have HS14 := Lib.hid (s13.keep b14)
        have HZ14 := Lib.hid (z13.keep b14)
        have HM14 := Lib.hid (m13.keep b14)
        clear y13 j13 s13 z13 m13 C13 D13 b14 za zb
        go_upto_region 24 with fail
        go_cut [14, 15] from 79 to 86 (fun pv okv wx => ∃ (Bn : Nat) (u' : Value), pv = .pointer (some ⟨Bn, 0, none⟩) ∧ okv = .bool ok ∧ Hid (BoxY Bn wx hr u') ∧ Hid (LaidF w14 wx Bn u' rr) ∧ Hid (Below w14.heap.size w14 wx))
        case first =>
          have CELL := Lib.hid fun (w' : World) (hs : Since w14 w') => (show w'.cell? ⟨A, 0, none⟩ = some (.int .i64 h0) ∧ w'.cell? ⟨A, 1, none⟩ = some (.slice a0 ss.length c0) ∧ w'.cell? ⟨MB, 0, none⟩ = some (.int .i64 f1) ∧ w'.cell? ⟨MB, 1, none⟩ = some (.int .i64 t1) ∧ Since w14 w' from ⟨(HY14.out.keep hs).c0, (HY14.out.keep hs).c1, (HJ14.out.keep hs).c0, (HJ14.out.keep hs).c1, hs⟩)
          have hstart := CELL.out _ (show Since w14 w14.drew from (Below.refl _ _).drew)
          have HST2 := Lib.hid fun o : Obj => CELL.out _ (show Since w14 (w14.alloc o).drew from ((Below.refl _ _).alloc (Nat.le_refl _) o).drew)
          have GTd := Lib.hid (GT.out w14.drew (HC14.out.trans (Below.mono ((Below.refl _ _).drew) HC14.out.size)))
          have GTa := Lib.hid (GT.out (w14.alloc (.cells #[.int .i64 0, .slice none 0 0] 25)).drew (HC14.out.trans (Below.mono (((Below.refl _ _).alloc (Nat.le_refl _) _).drew) HC14.out.size)))
          go_region_held3 (fun w' => w'.cell? ⟨A, 0, none⟩ = some (.int .i64 h0) ∧ w'.cell? ⟨A, 1, none⟩ = some (.slice a0 ss.length c0) ∧ w'.cell? ⟨MB, 0, none⟩ = some (.int .i64 f1) ∧ w'.cell? ⟨MB, 1, none⟩ = some (.int .i64 t1) ∧ Since w14 w')
            (first | exact hstart | exact HST2.out _ | exact CELL.out _ (Since.on (by exact (‹_ ∧ _› : _ ∧ _ ∧ _ ∧ _ ∧ Since w14 _).2.2.2.2) ‹Below w14.heap.size _ _›) | exact CELL.out _ (Since.call (by exact (‹_ ∧ _› : _ ∧ _ ∧ _ ∧ _ ∧ Since w14 _).2.2.2.2) ‹_›) | exact CELL.out _ (Since.alloc S11.out _) | exact CELL.out _ (Since.alloc (by exact (‹_ ∧ _› : _ ∧ _ ∧ _ ∧ _ ∧ Since w14 _).2.2.2.2) _) | exact CELL.out _ (Below.setCell (Below.setCell S11.out HB11.out.2 _) HB11.out.2 _) | fail)
            (first
              | (go_at_call 35; ((with_reducible refine GTd.out.mono ?_); rintro e w9 ⟨v9, rfl, g9, b9⟩; obtain ⟨p9, k9, rfl⟩ := FreeY.form g9; have K9 := Lib.hid fun w' (hs : Since w9 w') => (FreeY.holdsY g9).keep hs; have L9 : w14.heap.size ≤ w9.heap.size := b9.size; clear g9))
              | (go_at_call 35; ((with_reducible refine GTa.out.mono ?_); rintro e w9 ⟨v9, rfl, g9, b9⟩; obtain ⟨p9, k9, rfl⟩ := FreeY.form g9; have K9 := Lib.hid fun w' (hs : Since w9 w') => (FreeY.holdsY g9).keep hs; have BX9 := Lib.hid (((BoxY.new w14 0 (.slice none 0 0)).keep ((Below.refl _ _).drew)).keep b9); have LBN := Lib.hid (Nat.le_refl w14.heap.size); have L9 : w14.heap.size ≤ w9.heap.size := Nat.le_trans (by simp) b9.size; clear g9))
              | (go_at_call 39; ((with_reducible refine (toMove_any f1 t1 w9).mono ?_); rintro e w10 ⟨rfl, b10⟩; have BX10 := Lib.hid (BX9.out.keep b10); have S10 := Lib.hid (show Since w9 w10 from b10); have L10 := Nat.le_trans L9 b10.size))
              | (go_at_call 39; ((with_reducible refine (toMove_any f1 t1 w9).mono ?_); rintro e w10 ⟨rfl, b10⟩; have S10 := Lib.hid (show Since w9 w10 from b10); have L10 := Nat.le_trans L9 b10.size))
              | (go_at_call 39; ((with_reducible refine (toMove_any f1 t1 (w9.alloc (.cells #[.int .i64 0, .slice none 0 0] 25))).mono ?_); rintro e w10 ⟨rfl, b10⟩; have BX10 := Lib.hid ((BoxY.new w9 0 (.slice none 0 0)).keep b10); have LBN := Lib.hid L9; have S10 := Lib.hid (show Since w9 w10 from Below.trans ((Below.refl _ _).alloc (Nat.le_refl _) _) (b10.mono (by simp))); have L10 := Nat.le_trans L9 (Below.size S10.out)))
              | (go_at_call 27; ((with_reducible refine (HI.out _ w10 (K9.out _ S10.out)).mono ?_); rintro e w11 ⟨v11, rfl, n11, b11⟩; obtain ⟨p11, k11, rfl⟩ := FreeY.form n11; have S11 := Lib.hid (show Since w14 w11 from Since.call (by exact (‹_ ∧ _› : _ ∧ _ ∧ _ ∧ _ ∧ Since w14 _).2.2.2.2) b11); have BX11 := Lib.hid (BX10.out.keep b11); have HB11 := Lib.hid (And.intro BX10.out.lt LBN.out); have d0 := BX11.out.c0; have d1 := BX11.out.c1; have e0 := BX11.out.frozen 0; have e1 := BX11.out.frozen 1; have B11 := b11.size; have N11 := Lib.hid n11; clear n11))
              | (go_at_call 27; ((with_reducible refine (HI.out _ w10 (K9.out _ S10.out)).mono ?_); rintro e w11 ⟨v11, rfl, n11, b11⟩; obtain ⟨p11, k11, rfl⟩ := FreeY.form n11; have S11 := Lib.hid (show Since w14 w11 from Since.call (by exact (‹_ ∧ _› : _ ∧ _ ∧ _ ∧ _ ∧ Since w14 _).2.2.2.2) b11); have B11 := b11.size; have N11 := Lib.hid n11; clear n11))
              | (go_at_call 27; ((with_reducible refine (HI.out _ (w10.alloc (.cells #[.int .i64 0, .slice none 0 0] 25)) (K9.out _ (Since.alloc S10.out _))).mono ?_); rintro e w11 ⟨v11, rfl, n11, b11⟩; obtain ⟨p11, k11, rfl⟩ := FreeY.form n11; have S11 := Lib.hid (show Since w14 w11 from Since.call (by exact (‹_ ∧ _› : _ ∧ _ ∧ _ ∧ _ ∧ Since w14 _).2.2.2.2) b11); have BX11 := Lib.hid ((BoxY.new w10 0 (.slice none 0 0)).keep b11); have HB11 := Lib.hid (And.intro (show w10.heap.size < (w10.alloc (.cells #[.int .i64 0, .slice none 0 0] 25)).heap.size by simp) L10); have d0 := BX11.out.c0; have d1 := BX11.out.c1; have e0 := BX11.out.frozen 0; have e1 := BX11.out.frozen 1; have B11 := b11.size; have N11 := Lib.hid n11; clear n11))
              | fail)
          all_goals
            go_wp2_with fail
            go_meet
            first
              | exact laidFA N11.out L10 B11 S11.out
              | exact laidFB N11.out BX11.out HB11.out.1 HB11.out.2 B11 S11.out
        case rest =>
          obtain ⟨Hb, u16, rfl, rfl, HB, HF, HL⟩ := hcut
          rename World => W17
          obtain ⟨Kh, Bh, f17, -, -, -, -, -⟩ := HF.out
          obtain ⟨p16, k16, rfl⟩ := f17.form
          have C17 := HC14.out.trans (HL.out.mono HC14.out.size)
          have D17 := HD14.out.trans (HL.out.mono HD14.out.size)
          have s17 := HS14.out.keep HL.out
          have z17 := HZ14.out.keep HL.out
          have m17 := HM14.out.keep HL.out
          have t17 := HB.out
          have ta := t17.c0
          have tb := t17.c1
          have sa := s17.c0
          have sb := s17.c1
          clear HC14 HD14 HY14 HJ14 HS14 HZ14 HM14 HB HF HL
          go_wp2_with fail
          refine (eqYard_same hr _ _ rr W17 f17.holdsY (H2.out W17 D17)).mono ?_
          rintro e w18 ⟨rfl, b18⟩
          have C18 := C17.trans (b18.mono C17.size)
          have z18 := z17.keep b18
          have m18 := m17.keep b18
          clear s17 z17 m17 t17 f17 C17 D17 b18 ta tb sa sb
          have za := z18.c0
          have zb := z18.c1
          go_wp2_with fail
          refine (HE.out _ w18 m18).mono ?_
          rintro e w19 ⟨rfl, b19⟩
          have C19 := C18.trans (b19.mono C18.size)
          clear z18 m18 C18 b19 za zb
          go_wp2_with fail
          go_ret
          exact ⟨rfl, C19⟩

set_option maxRecDepth 100000 in
set_option maxHeartbeats 2000000 in
/-- What the walk gives, for every argument. -/
theorem contract (H : Type) (enc : TypeId × Value → H) (W : World) (base : Nat) (args : Array Value) (ds gs : List (DataW H)) (before : List MemPlace)
    (hval : ∀ (j : Nat) t v, Try.f9.params[j]? = some t → args[j]? = some v → Value.okWide Try.prog W .any base t v)
    (hW : DataW.Whole enc Try.prog Try.f9.params.toList Rows.fnExactYardMoveSpec.vars false W args.toList ds gs before) :
    Calls Try.prog 9 args W fun e W' => ∃ v, e = .returned v ∧ Rows.fnExactYardMoveSpec.post enc Try.prog Try.f9 false true false false W args v W' := by
  have hW' := hW
  obtain ⟨p, q, hA0, hV, rfl, hfz, hnd⟩ := hW
  have hA : DataW.TrodAll enc Try.prog W 0 (fun _ => true) true Try.f9.params.toList args.toList ds p := hA0
  rw [Try.params9] at hA hval
  obtain ⟨v0, vs0, d0, ds0, p0, q0, hargs, rfl, rfl, h0, r0⟩ := trodAll_cons hA
  obtain ⟨v1, vs1, d1, ds1, p1, q1, rfl, rfl, rfl, h1, r1⟩ := trodAll_cons r0
  obtain ⟨rfl, rfl, rfl⟩ := trodAll_nil r1
  obtain rfl : args = #[v0, v1] := by cases args; simp_all
  obtain ⟨rfl, rfl⟩ := trodVars_none hV
  have k0 := h0
  have lt0 : ∀ x ∈ p0, x.block < W.heap.size := by obtain ⟨m, hm⟩ := k0; exact DataW.trod_lt m _ _ _ hm
  obtain ⟨hy0, u0, y0, rfl, w0⟩ := yard_value Try.underlying50 (by kernel_rfl) (by kernel_rfl) (by simp) (hval 0 50 v0 rfl rfl) h0
  have k1 := h1
  have lt1 : ∀ x ∈ p1, x.block < W.heap.size := by obtain ⟨m, hm⟩ := k1; exact DataW.trod_lt m _ _ _ hm
  obtain ⟨f1, t1, rfl⟩ := move_value Try.underlying55 (by kernel_rfl) (by kernel_rfl) (by simp) (hval 1 55 v1 rfl rfl) h1
  clear hA0
  refine (walk hy0 u0 y0 f1 t1 W w0).mono fun e W' ⟨he, bel⟩ => ?_
  subst he
  exact ⟨_, rfl, _, _, _, [], _, [], hW', trodAll_mk1 (shut_bool Try.underlying4 _), (trodAll_cons_mk (Below.trod laidOut (by kernel_rfl) (of_decide_eq_true (by kernel_rfl)) k0 bel lt0) (trodAll_cons_mk (Below.trod laidOut (by kernel_rfl) (of_decide_eq_true (by kernel_rfl)) k1 bel lt1) trodAll_mk0)), rfl, bel.frame _, fun h => by cases h⟩

set_option maxRecDepth 100000 in
theorem lifted (os : Os) (started : os.Started) (H : Type) (enc : TypeId × Value → H) :
    ReturnsInHanded {} Try.checked os 9 .any (Rows.fnExactYardMoveSpec.pre6 enc Try.prog Try.f9 Rows.fnExactYardMoveRow.domain false) (Rows.fnExactYardMoveSpec.post enc Try.prog Try.f9 false true false false) := by
  refine returnsInHanded_of_change (C := Try.checked) own started (by kernel_rfl) Try.func9
    (ChangeSpec.witness6 (enc := enc) (C := Try.checked) false ⟨#[], #[.agg #[.int .i64 0, .slice none 0 0], .agg #[.int .i64 0, .int .i64 0]], []⟩ 8 (by kernel_rfl) (by kernel_rfl) (by kernel_rfl) (by kernel_rfl)) ?_
  intro W base args ds gs before hval hW _ _
  exact contract H enc W base args ds gs before hval hW

theorem proved : Rows.FnExactYardMoveSaid :=
  OpenClaim.holds_of_wide 9 Try.f9 rfl rfl rfl rfl rfl rfl rfl ⟨rfl, rfl, rfl, rfl, rfl⟩ rfl rfl rfl rfl rfl (by kernel_rfl) Try.func9 (by kernel_rfl)
    (of_decide_eq_true (by kernel_rfl)) (by unfold Func.isWrapper; first | (rw [if_pos (by decide +kernel)]; kernel_rfl) | (rw [if_neg (by decide +kernel)]; exact ⟨rfl, rfl⟩))
    (fun os started H enc _ => lifted os started H enc)
#print axioms proved
end Go.Proofs.Ytlcfldmiibjboaa.fnExactYardMove
