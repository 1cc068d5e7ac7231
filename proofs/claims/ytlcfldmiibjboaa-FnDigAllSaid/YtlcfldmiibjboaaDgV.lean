/-
  The draw of an order in which boxes leave: l20Leaving.
-/
import Derived.Test.YtlcfldmiibjboaaYkS
import Derived.Test.YtlcfldmiibjboaaYsI
import Derived.Test.YtlcfldmiibjboaaDgMath4
import Derived.Deep.CutRange
namespace Go.Proofs.Ytlcfldmiibjboaa
open Go.RowKit
set_option linter.unusedVariables false

section
variable {P : Program} {w : World}
/-- An append in a drawn region that tells where the new row lies, also of nothing to a row that has something. -/
theorem step_append_tells {ops : Array Oper} {o : Oper} {a : Act} {K : Act → World → Prop} {Q : Exit → Act → World → Prop} {E : Prop} (hw : Region.wanted o (yielded ops a.tmps) = true) (s x : Operand) (t : TypeId)
    (ho : o.op = .call { callee := .builtin .append, args := #[s, x], argTypes := #[t, t] })
    (base : Nat) (e : TypeId) (i : TypeInfo) (z : Value) (size bytes : Nat) (ht : P.underlying t = some (.slice e)) (hi : P.info? e = some i) (hz : i.zero = some z)
    (hsize : i.size = size) (hby : i.bytes = bytes) (hzs : z.cells.size = size) (hsz : 0 < size)
    (v : Value) (n : Nat) (xs : List Value) (hs : a.eval s = v) (hown : w.ownsRow base e size v n xs)
    (ad : Addr) (m c : Nat) (news : List Value) (hx : a.eval x = .slice (some ad) m c) (hl : news.length = m * size) (hnews : ∀ j u, news[j]? = some u → w.cell? (ad.add j) = some u) (h1 : ∀ u ∈ news, u.oneCell' = true)
    (hm : 0 < n + m) (h63 : n + m ≤ maxLen) (hbytes : (n + m) * bytes ≤ 140737488355328) (hbase : base ≤ w.heap.size)
    (h : ∀ g cap w', w'.ownsRow base e size (.slice (some ⟨g, 0, none⟩) (n + m) cap) (n + m) (xs ++ news) → w.grownBy w' v.ownBlock → (v.ownBlock = some g ∨ g = w.heap.size) → g < w'.heap.size → K (a.put o.dst (.slice (some ⟨g, 0, none⟩) (n + m) cap)) w') :
    if Region.wanted o (yielded ops a.tmps) = true then Oper.wp P o a w K Q else E := by
  rw [if_pos hw]
  obtain ⟨v', w', hr, h2, h3, _, h5⟩ := run_append_own_at (P := P) w base t o.type e i z size bytes ht hi hz hsize hby hzs hsz v n xs hown ad m c news hl hnews h1 h63 hbytes hbase
  obtain ⟨g, cap, rfl, _, hlt⟩ := h2.form hm
  unfold Oper.wp execOp
  simp only [ho, resolve, invoke, builtin, Sem.run_bind, Sem.run_pure, Result.andThen_ok, List.map_toArray, List.map_cons, List.map_nil, hs, hx, hr]
  refine h g cap w' h2 h3 ?_ hlt
  rcases h5 with h5 | h5
  · exact .inl (by rw [← h5]; rfl)
  · right
    simpa [Value.ownBlock] using h5
end

/-- A row's beginning. -/
theorem own_take {w : World} {base c n : Nat} {e : TypeId} {a : Option Addr} {l : List Int} (h : w.ownsRow base e 1 (.slice a l.length c) l.length (rowI l)) (hn : n ≤ l.length) : w.ownsRow base e 1 (.slice a n c) n (rowI (l.take n)) := by
  refine ⟨by rw [rowI_len, List.length_take]; omega, ?_⟩
  rcases h.2 with ⟨hv, h0⟩ | ⟨g, cap, cur, hv, hb, hg, hc, hm, hs, hx⟩
  · simp only [Value.slice.injEq] at hv
    obtain ⟨rfl, h1, rfl⟩ := hv
    have : n = 0 := by omega
    subst this
    exact .inl ⟨rfl, rfl⟩
  · simp only [Value.slice.injEq, true_and] at hv
    obtain ⟨rfl, rfl⟩ := hv
    refine .inr ⟨g, c, cur, rfl, hb, hg, by omega, hm, hs, ?_⟩
    have e1 : rowI (l.take n) = (rowI l).take n := by simp [rowI, List.map_take]
    rw [e1, ← hx, List.take_take]
    congr 1
    omega
/-- A list of numbers that lies apart from a block and from a row's block. -/
def StayL (B : Nat) (o : Option Nat) (w : World) (v : Value) (l : List Int) : Prop :=
  ∀ w', w.heap.size ≤ w'.heap.size → (∀ k, k < w.heap.size → k ≠ B → o ≠ some k → w'.heap[k]? = w.heap[k]?) → HoldsI w' v l
theorem StayL.holds {B : Nat} {o : Option Nat} {w : World} {v : Value} {l : List Int} (h : StayL B o w v l) : HoldsI w v l := h w (Nat.le_refl _) fun _ _ _ _ => rfl
theorem StayL.go {B : Nat} {o : Option Nat} {w w' : World} {v : Value} {l : List Int} (h : StayL B o w v l) (hs : w.heap.size ≤ w'.heap.size) (hb : ∀ k, k < w.heap.size → k ≠ B → o ≠ some k → w'.heap[k]? = w.heap[k]?) : StayL B o w' v l :=
  fun w'' hs' hb' => h w'' (Nat.le_trans hs hs') fun k hk h1 h2 => (hb' k (Nat.lt_of_lt_of_le hk hs) h1 h2).trans (hb k hk h1 h2)
theorem StayL.most {B : Nat} {o : Option Nat} {w w' : World} {v : Value} {l : List Int} (h : StayL B o w v l) (hm : MostB B w w') : StayL B o w' v l := h.go hm.size fun k hk h1 _ => hm.block k h1 hk
theorem StayL.push {B g' : Nat} {o : Option Nat} {w w6 : World} {v : Value} {l : List Int} (h : StayL B o w v l) (hs : w.heap.size ≤ w6.heap.size) (hb : ∀ k, k < w.heap.size → o ≠ some k → w6.heap[k]? = w.heap[k]?) (hg : o = some g' ∨ w.heap.size ≤ g') : StayL B (some g') w6 v l :=
  fun w' hs' hb' => h w' (Nat.le_trans hs hs') fun k hk h1 h2 => (hb' k (Nat.lt_of_lt_of_le hk hs) h1 (fun e => by
    have e2 : g' = k := Option.some.inj e
    subst e2
    rcases hg with hg | hg
    · exact h2 hg
    · omega)).trans (hb k hk h2)
theorem StayL.cell {B : Nat} {o : Option Nat} {w : World} {b off n cap : Nat} {l : List Int} (h : StayL B o w (.slice (some ⟨b, off, none⟩) n cap) l) {k : Nat} (hk : k < n) {w' : World} (hs : w.heap.size ≤ w'.heap.size) (hb : ∀ k, k < w.heap.size → k ≠ B → o ≠ some k → w'.heap[k]? = w.heap[k]?) : w'.cell? ⟨b, off + k, none⟩ = some (.int .i64 (l.getD k 0)) := by
  obtain ⟨b', off', e', _, c⟩ := (h w' hs hb).at_ hk
  simp only [Option.some.injEq, Addr.mk.injEq, and_true] at e'
  obtain ⟨rfl, rfl⟩ := e'
  exact c
/-- What stands while an order is drawn. -/
structure LvSt (base B K p : Nat) (w0 wr : World) (iv : Value) (ids : List Int) (lv : Value) (l : List Int) : Prop where
  rdr : Rdr base B p wr
  most : MostB B w0 wr
  own : wr.ownsRow K 3 1 lv l.length (rowI l)
  low : B < w0.heap.size ∧ w0.heap.size ≤ K ∧ K ≤ wr.heap.size
  stay : StayL B lv.ownBlock wr iv ids
theorem LvSt.go {base B K p q : Nat} {w0 wr wx : World} {iv lv : Value} {ids l : List Int} (s : LvSt base B K p w0 wr iv ids lv l) (hm : MostB B wr wx) (hr : Rdr base B q wx) : LvSt base B K q w0 wx iv ids lv l := by
  obtain ⟨h1, h2, h3⟩ := s.low
  exact ⟨hr, s.most.trans hm, own_most s.own hm (by omega), ⟨h1, h2, Nat.le_trans h3 hm.size⟩, s.stay.most hm⟩
theorem LvSt.keep {base B K p : Nat} {w0 wr wx : World} {iv lv : Value} {ids l : List Int} (s : LvSt base B K p w0 wr iv ids lv l) (hb : Below wr.heap.size wr wx) : LvSt base B K p w0 wx iv ids lv l :=
  s.go ((MostB.refl B wr).below_ hb) (s.rdr.keepK hb s.rdr.2.1)
/-- What a draw of an order gives. -/
def DrewOrd (base B p : Nat) (w : World) (e : Ending) (w' : World) : Prop :=
  ∃ (v : Value) (os : List Int) (q : Nat), q ≤ p + 60 ∧ os.length ≤ 26 ∧ e = .returned v ∧ NewI w.heap.size w' v os ∧ Rdr base B q w' ∧ MostB B w w'
theorem own_caps {w : World} {base n c : Nat} {e : TypeId} {x : Addr} {xs : List Value} (h : w.ownsRow base e 1 (.slice (some x) n c) n xs) : n ≤ c ∧ c ≤ 9223372036854775807 := by
  rcases h.2 with ⟨hv, _⟩ | ⟨g, cap, cur, hv, hb, hg, hc, hm, _⟩
  · cases hv
  · simp only [Value.slice.injEq, true_and] at hv
    obtain ⟨_, rfl⟩ := hv
    unfold maxLen at hm
    exact ⟨hc, by omega⟩
/-- What is known of the rest of a list laid into a row of its own. -/
def RestRow (w0 wx : World) (rv : Value) (l : List Int) (j : Nat) : Prop :=
  ∃ (gr cr mr : Nat), rv = .slice (some ⟨gr, 0, none⟩) mr cr ∧ mr + j = l.length ∧ Hid (wx.ownsRow w0.heap.size 3 1 (.slice (some ⟨gr, 0, none⟩) mr cr) mr (rowI (l.drop j))) ∧ Hid (Below w0.heap.size w0 wx)
theorem rest_row {w0 wx : World} {rv : Value} {l : List Int} {j mr : Nat} (h : wx.ownsRow w0.heap.size 3 1 rv (0 + mr) ([] ++ rowI (l.drop j))) (hn : rv ≠ .slice none 0 0) (hj : mr + j = l.length) (hb : Below w0.heap.size w0 wx) : RestRow w0 wx rv l j := by
  rw [Nat.zero_add, List.nil_append] at h
  rcases h.2 with ⟨hv, _⟩ | ⟨g, cap, cur, rfl, _⟩
  · exact absurd hv hn
  · exact ⟨g, cap, mr, rfl, hj, Lib.hid h, Lib.hid hb⟩

theorem LvSt.insert {base B K p g g5 g6 c c6 n : Nat} {w0 wx W w5 w6 : World} {iv : Value} {ids l l' : List Int} (s : LvSt base B K p w0 wx iv ids (.slice (some ⟨g, 0, none⟩) l.length c) l) (hW : Below wx.heap.size wx W)
    (hg5 : W.grownBy w5 (some g)) (hgg5 : some g = some g5 ∨ g5 = W.heap.size) (hg6 : w5.grownBy w6 (some g5)) (hgg6 : some g5 = some g6 ∨ g6 = w5.heap.size)
    (ho : w6.ownsRow K 3 1 (.slice (some ⟨g6, 0, none⟩) n c6) n (rowI l')) (hn : l'.length = n) : LvSt base B K p w0 w6 iv ids (.slice (some ⟨g6, 0, none⟩) l'.length c6) l' := by
  subst hn
  obtain ⟨h1, h2, h3⟩ := s.low
  have hgK := (own_lt s.own g rfl).1
  have hsW := hW.size
  have b5 : Below K W w5 := own_below (v := .slice (some ⟨g, 0, none⟩) 0 0) hg5 (by omega) (fun k hk => by simp [Value.ownBlock] at hk; omega)
  have hs5 := b5.size
  have hg5K : K ≤ g5 := by
    rcases hgg5 with e | e
    · have := Option.some.inj e; omega
    · omega
  have b6 : Below K w5 w6 := own_below (v := .slice (some ⟨g5, 0, none⟩) 0 0) hg6 (by omega) (fun k hk => by simp [Value.ownBlock] at hk; omega)
  have ball : Below K wx w6 := (hW.mono h3).trans (b5.trans b6)
  have s5 : StayL B (some g5) w5 iv ids := s.stay.push (g' := g5) (o := some g) (by omega) (fun k hk hne => (hg5.block k (by omega) (fun e => hne e.symm)).trans (hW.block k hk)) (hgg5.imp id (fun e => by omega))
  have hsz := b6.size
  exact ⟨s.rdr.keepK ball (by omega), s.most.below_ (ball.mono h2), ho, ⟨h1, h2, by omega⟩, s5.push (g' := g6) hsz (fun k hk hne => hg6.block k hk (fun e => hne e.symm)) (hgg6.imp id (fun e => by omega))⟩

set_option maxRecDepth 10000 in
set_option maxHeartbeats 4000000 in
theorem l20Leaving_any (base B p : Nat) (h : Int) (v : Value) (ss : List (List Int)) (n : Int) (w : World) (hr : Rdr base B p w) (hp : p ≤ 100000) (hh : HoldsY w v ss) (hbd : ss.flatten.length ≤ 1048577) (hn0 : 1 ≤ n) (hn1 : n ≤ 1000) :
    Calls Try.prog 83 #[.pointer (some ⟨B, 0, none⟩), .agg #[.int .i64 h, v], .int .i64 n] w (DrewOrd base B p w) := by
  obtain ⟨i0, hi, hz0, hz1, hz2⟩ := info_parts infoInt
  have HI := Lib.hid hi
  have HZ0 := Lib.hid hz0
  have HZ1 := Lib.hid hz1
  have HZ2 := Lib.hid hz2
  clear hi hz0 hz1 hz2
  have hB := hr.2.1
  have hb2 := ((Below.refl w.heap.size w).alloc (Nat.le_refl _) (.cells #[.int .i64 h, v] 25)).alloc (by simp) (.cells #[] 3)
  have hY0 : BoxY w.heap.size ((w.alloc (.cells #[.int .i64 h, v] 25)).alloc (.cells #[] 3)) h v := two_lo _ _ _
  have hO0 : ((w.alloc (.cells #[.int .i64 h, v] 25)).alloc (.cells #[] 3)).ownsRow (w.heap.size + 1) 3 1 (.slice (some ⟨w.heap.size + 1, 0, none⟩) 0 0) 0 [] := own_empty (by omega) (two_hi _ _ _)
  have hI0 := specYardIds_any h v ss _ (hh.keep hb2) hbd
  have hl25 : (idsY h ss).length ≤ 25 := by
    cases hok : ydOk h ss
    · rw [idsY_bad hok]; simp
    · rw [idsY_len hok]; exact ydOk_size hok
  obtain ⟨w1, hw1⟩ : ∃ w1, w1 = (w.alloc (.cells #[.int .i64 h, v] 25)).alloc (.cells #[] 3) := ⟨_, rfl⟩
  rw [← hw1] at hY0 hb2 hO0 hI0
  have hs1 : w1.heap.size = w.heap.size + 2 := by rw [hw1]; simp
  have HID := Lib.hid hI0
  have y0 := hY0.c0
  have y1 := hY0.c1
  have W1 := Lib.hid hw1
  have R1 := Lib.hid (hr.keepK hb2 hB)
  have M1 := Lib.hid ((MostB.refl B w).below_ hb2)
  have O1 := Lib.hid hO0
  obtain ⟨va, vc, rfl⟩ : ∃ a cap, v = .slice a ss.length cap := by obtain ⟨a, cap, h1, _⟩ := hh; exact ⟨a, cap, h1⟩
  clear hw1 hO0 hb2 hY0 hI0 hh hr hbd
  generalize idsY h ss = ids at HID hl25
  go_enter Try.func83, Try.ntmps83
  go_wp2_with fail
  rw [← W1.out]
  refine HID.out.mono ?_
  rintro e w3 ⟨iv, rfl, n3, b3⟩
  have hst : StayL B (some (w.heap.size + 1)) w3 iv ids := fun w' hs hb => HoldsI.far (fun k => w1.heap.size ≤ k) hs (fun k hk hl => hb k hl (by omega) (fun e => by have := Option.some.inj e; omega)) (fun _ h => h) n3
  have hs3 := b3.size
  have S3 : Hid (LvSt base B (w.heap.size + 1) p w w3 iv ids (.slice (some ⟨w.heap.size + 1, 0, none⟩) 0 0) []) := Lib.hid
    ⟨R1.out.keepK b3 (by omega), M1.out.below_ (b3.mono (by omega)), own_stay O1.out b3, ⟨hB, by omega, by omega⟩, by simpa [Value.ownBlock] using hst⟩
  obtain ⟨ia, ic, rfl⟩ := n3.holds.form
  have him : ids.length ≤ ic := by obtain ⟨_, _, e, h2, _⟩ := n3; simp only [Value.slice.injEq] at e; omega
  obtain ⟨m, hm⟩ : ∃ m, m = ids.length := ⟨_, rfl⟩
  rw [← hm] at S3 hl25 him ⊢
  clear hm y0 y1 n3 b3 hst HID W1 R1 M1 O1 hs1
  go_wp2_with fail
  go_loopw [7, 9] (fun lv kk wr => ∃ (qq k g c : Nat) (l : List Int), lv = .slice (some ⟨g, 0, none⟩) l.length c ∧ kk = .int .i64 k ∧ k ≤ m ∧ l.length ≤ k ∧ qq ≤ p + 2 * k ∧ Hid (LvSt base B (w.heap.size + 1) qq w wr (.slice ia m ic) ids (.slice (some ⟨g, 0, none⟩) l.length c) l)) (fun _ kk _ => m - (intOf kk).toNat)
  case atStart => exact ⟨p, 0, _, 0, [], rfl, rfl, by omega, Nat.le_refl _, by omega, S3⟩
  case round =>
    clear S3
    obtain ⟨qq, k, g, c, l, rfl, rfl, hk, hlk, hqq, ST⟩ := hrel
    by_cases hlt : k < m
    · go_wp2_with fail
      refine (pick_any base B qq 4 wr ST.out.rdr (by omega) (by omega)).mono ?_
      rintro e w5 ⟨x, x0, x1, rfl, hr5, ho5⟩
      have S5 := Lib.hid (ST.out.go ho5.mostB hr5)
      clear ST hr5 ho5
      by_cases hx : 0 < x
      · have hlw : IntKind.i64.wrap ((l.length : Int) + 1) = (l.length : Int) + 1 := IntWalk.i64_in _ (by omega)
        go_wp2_with fail
        refine (pick_any base B (qq + 1) ((l.length : Int) + 1) w5 S5.out.rdr (by omega) (by omega)).mono ?_
        rintro e w6 ⟨z, z0, z1, rfl, hr6, ho6⟩
        obtain ⟨j, rfl⟩ := Int.eq_ofNat_of_zero_le z0
        have S6 := Lib.hid (S5.out.go ho6.mostB hr6)
        have hjl : j ≤ l.length := by omega
        clear S5 hr6 ho6 z0 z1 hlw
        obtain ⟨hc1, hc2⟩ := own_caps S6.out.own
        have hg6 := own_lt S6.out.own g rfl
        go_upto_region 8 with fail
        go_cut [11] from 15 to 44 (fun rv wx => RestRow w6 wx rv l j)
        case first =>
          have ikc : (j : Int) ≤ (c : Int) := by omega
          have ijl : (j : Int) ≤ (l.length : Int) := by omega
          have imc : (l.length : Int) ≤ (c : Int) := by omega
          have i0j : (0 : Int) ≤ (j : Int) := by omega
          by_cases hjt : j < l.length
          · have hnc : ¬ c = j := by omega
            have z1 : IntKind.i64.wrap ((l.length : Int) - (j : Int)) = ((l.length - j : Nat) : Int) := by rw [IntKind.wrap_i64]; omega
            have HD := Lib.hid fun i u hu => (show (w6.alloc (.cells #[] 3)).cell? ((⟨g, j, none⟩ : Addr).add i) = some u by
              have := drop_cells (((NewI.of_own S6.out.own).holds).keep ((Below.refl w6.heap.size w6).alloc (Nat.le_refl _) (.cells #[] 3))) hjt i u hu
              rw [Nat.zero_add] at this
              exact this)
            go_wp2_with (at_builtin; refine wpList_append_own _ rfl _ _ 35 rfl w6.heap.size 3 i0 (.int .i64 0) 1 8 Try.underlying35 HI.out HZ0.out HZ1.out HZ2.out rfl (by decide) _ 0 [] rfl (own_empty (Nat.le_refl _) (heap_alloc_new _ _)) ⟨g, j, none⟩ (l.length - j) (c - j) (rowI (l.drop j)) rfl (by rw [rowI_len, List.length_drop, Nat.mul_one]) HD.out (rowI_one _) (by unfold maxLen; omega) (by omega) (by simp) ?_; intro v7 w7 hown7 hgrow7 hn7)
            have hb7 : Below w6.heap.size w6 w7 := ((Below.refl w6.heap.size w6).alloc (Nat.le_refl _) (.cells #[] 3)).trans (own_below (v := .slice (some ⟨w6.heap.size, 0, none⟩) 0 0) hgrow7 (by simp) (fun k hk => by simp [Value.ownBlock] at hk; omega))
            go_meet
            exact rest_row hown7 (fun e => by cases (hn7.1 e).1) (by omega) hb7
          · obtain rfl : j = l.length := by omega
            by_cases hck : c = l.length
            · subst hck
              go_wp2_with (at_builtin; refine wpList_append_own _ rfl _ _ 35 rfl w6.heap.size 3 i0 (.int .i64 0) 1 8 Try.underlying35 HI.out HZ0.out HZ1.out HZ2.out rfl (by decide) _ 0 [] rfl (own_empty (Nat.le_refl _) (heap_alloc_new _ _)) ⟨g, 0, none⟩ 0 0 [] rfl rfl (fun i u hu => by cases hu) (fun u hu => by cases hu) (by unfold maxLen; omega) (by omega) (by simp) ?_; intro v7 w7 hown7 hgrow7 hn7)
              have hb7 : Below w6.heap.size w6 w7 := ((Below.refl w6.heap.size w6).alloc (Nat.le_refl _) (.cells #[] 3)).trans (own_below (v := .slice (some ⟨w6.heap.size, 0, none⟩) 0 0) hgrow7 (by simp) (fun k hk => by simp [Value.ownBlock] at hk; omega))
              go_meet
              exact rest_row (mr := 0) (by rw [List.drop_length]; exact hown7) (fun e => by cases (hn7.1 e).1) (by omega) hb7
            · go_wp2_with (at_builtin; refine wpList_append_own _ rfl _ _ 35 rfl w6.heap.size 3 i0 (.int .i64 0) 1 8 Try.underlying35 HI.out HZ0.out HZ1.out HZ2.out rfl (by decide) _ 0 [] rfl (own_empty (Nat.le_refl _) (heap_alloc_new _ _)) ⟨g, l.length, none⟩ 0 (c - l.length) [] rfl rfl (fun i u hu => by cases hu) (fun u hu => by cases hu) (by unfold maxLen; omega) (by omega) (by simp) ?_; intro v7 w7 hown7 hgrow7 hn7)
              have hb7 : Below w6.heap.size w6 w7 := ((Below.refl w6.heap.size w6).alloc (Nat.le_refl _) (.cells #[] 3)).trans (own_below (v := .slice (some ⟨w6.heap.size, 0, none⟩) 0 0) hgrow7 (by simp) (fun k hk => by simp [Value.ownBlock] at hk; omega))
              go_meet
              exact rest_row (mr := 0) (by rw [List.drop_length]; exact hown7) (fun e => by cases (hn7.1 e).1) (by omega) hb7
        case rest =>
          obtain ⟨gr, cr, mr, rfl, hmr, HR, HBC⟩ := hcut
          rename World => wx
          have S7 := Lib.hid (S6.out.keep HBC.out)
          have hsx := HBC.out.size
          obtain ⟨bi, offi, rfl, hbi, s0⟩ := S7.out.stay.holds.at_ hlt
          have ik : (k : Int) < (m : Int) := by omega
          have i0k : (0 : Int) ≤ (k : Int) := by omega
          have ijc : (j : Int) ≤ (c : Int) := by omega
          have i0j : (0 : Int) ≤ (j : Int) := by omega
          have hgr := own_lt HR.out gr rfl
          have OT := Lib.hid (own_take S7.out.own hjl)
          have hK7 := S7.out.low
          have HC := Lib.hid fun (w' : World) (hs : wx.heap.size ≤ w'.heap.size) (hb : ∀ k, k < wx.heap.size → k ≠ g → w'.heap[k]? = wx.heap[k]?) => StayL.cell S7.out.stay hlt hs (fun k hk _ hne => hb k hk (fun e => hne (by rw [e]; rfl)))
          clear S6 HBC s0
          generalize hy : ids.getD k 0 = y at HC
          clear hy
          have hstart : wx.drew.cell? ⟨bi, offi + k, none⟩ = some (.int .i64 y) := HC.out wx.drew (Nat.le_refl _) (fun _ _ _ => rfl)
          have s0 : wx.cell? ⟨bi, offi + k, none⟩ = some (.int .i64 y) := HC.out wx (Nat.le_refl _) (fun _ _ _ => rfl)
          have HST := Lib.hid fun o : Obj => (show (wx.alloc o).cell? ⟨bi, offi + k, none⟩ = some (.int .i64 y) from HC.out (wx.alloc o) (by simp) (fun k hk _ => Below.heap_alloc _ _ _ hk))
          go_wp2_with fail
          go_region_held3 (fun w' => w'.cell? ⟨bi, offi + k, none⟩ = some (.int .i64 y))
            (first | exact hstart | exact HST.out _ | exact CE5.out | exact CE6.out | fail)
            (first
              | (refine step_append_tells (by rfl) _ _ 35 (by rfl) (w.heap.size + 1) 3 i0 (.int .i64 0) 1 8 Try.underlying35 HI.out HZ0.out HZ1.out HZ2.out rfl (by decide) _ j (rowI (l.take j)) (by rfl) (OT.out.alloc _) ⟨wx.heap.size, 0, none⟩ 1 1 [.int .i64 y] (by rfl) rfl (fun j u hu => cells_new j u hu) (by simp [Value.oneCell']) (by omega) (by unfold maxLen; omega) (by omega) (by simp; omega) ?_; intro g5 c5 w5 ho5 hg5 hgg5 hl5; have G5 := Lib.hid (And.intro ho5 (And.intro hg5 hgg5)); have hz5 : wx.heap.size ≤ w5.heap.size := Nat.le_trans (by simp) hg5.size; have F5 := Lib.hid fun k (hk : k < wx.heap.size) (hne : k ≠ g) => (hg5.block k (by simp; omega) (fun e => hne (Option.some.inj e))).trans (Below.heap_alloc _ _ _ hk); have CE5 := Lib.hid (HC.out w5 hz5 F5.out); have E5 := Lib.hid (show g5 = g ∨ wx.heap.size ≤ g5 from hgg5.imp (fun e => by simp [Value.ownBlock] at e; omega) (fun e => by simp at e; omega)); have R5 := Lib.hid (own_far HR.out (fun k hk => F5.out k (by simp [Value.ownBlock] at hk; omega) (by simp [Value.ownBlock] at hk; omega))); clear ho5 hg5 hgg5)
              | (refine step_append_tells (by rfl) _ _ 35 (by rfl) (w.heap.size + 1) 3 i0 (.int .i64 0) 1 8 Try.underlying35 HI.out HZ0.out HZ1.out HZ2.out rfl (by decide) _ (j + 1) _ (by rfl) G5.out.1 ⟨gr, 0, none⟩ mr cr (rowI (l.drop j)) (by rfl) (by rw [rowI_len, List.length_drop]; omega) (fun i u hu => HoldsI.rowA ((NewI.of_own (l := l.drop j) (by rw [List.length_drop, show l.length - j = mr by omega]; exact R5.out)).holds) i u hu) (rowI_one _) (by omega) (by unfold maxLen; omega) (by omega) (by omega) ?_; intro g6 c6 w8 ho6 hg6 hgg6 hl6; have G6 := Lib.hid (And.intro ho6 (And.intro hg6 hgg6)); have CE6 := Lib.hid (HC.out w8 (Nat.le_trans hz5 hg6.size) (fun k hk hne => (hg6.block k (by omega) (fun e => by have e2 := E5.out; simp [Value.ownBlock] at e; omega)).trans (F5.out k hk hne))); clear ho6 hg6 hgg6)
              | fail)
          have hlen : (l.take j ++ [y] ++ l.drop j).length = j + 1 + mr := by simp [List.length_take, List.length_drop]; omega
          have LI := Lib.hid (LvSt.insert S7.out (by first | exact ((Below.refl _ _).drew).alloc (Nat.le_refl _) _ | exact ((Below.refl _ _).alloc (Nat.le_refl _) _).drew) G5.out.2.1 G5.out.2.2 G6.out.2.1 G6.out.2.2 (l' := l.take j ++ [y] ++ l.drop j) (by have := G6.out.1; rw [rowI_app, rowI_app]; exact this) hlen)
          have HLN := Lib.hid hlen
          clear hlen S7 G5 G6 R5 F5 CE5 CE6 E5 HR OT HC HST hstart s0
          go_wp2_with fail
          go_roundw
          case rel => exact ⟨qq + 1 + 1, k + 1, g6, c6, _, by rw [HLN.out], by go_num, by omega, by have := HLN.out; omega, by omega, LI⟩
          case measure => simp [intOf]; omega
      · go_wp2_with fail
        go_roundw
        case rel => exact ⟨qq + 1, k + 1, g, c, l, rfl, by go_num, by omega, by omega, by omega, S5⟩
        case measure => simp [intOf]; omega
    · have hkm : k = m := by omega
      subst hkm
      have hlk' : l.length ≤ 25 := by omega
      go_wp2_with fail
      refine (odd_any base B qq n wr ST.out.rdr (by omega) hn0 (by omega)).mono ?_
      rintro e w5 ⟨v5, rfl, hr5, ho5⟩
      have S5 := Lib.hid (ST.out.go ho5.mostB hr5)
      clear ST hr5 ho5 hlt
      cases v5
      · go_wp2_with fail
        go_ret
        exact ⟨_, l, qq + 1, by omega, by omega, rfl, (NewI.of_own S5.out.own).from_ (Nat.le_succ _), S5.out.rdr, S5.out.most⟩
      · rcases (by omega : (1 : Int) ≤ (k : Int) ∨ (k : Int) < 1) with h1 | h1
        · have hq := h1
          go_wp2_with fail
          have b6 : Below w5.heap.size w5 (w5.alloc (.cells #[.int .i64 0, .int .i64 998, .int .i64 (k : Int)] 3)) := (Below.refl _ _).alloc (Nat.le_refl _) _
          have S6 := Lib.hid (S5.out.keep b6)
          refine (pick_any base B (qq + 1) 3 _ S6.out.rdr (by omega) (by omega)).mono ?_
          rintro e w7 ⟨x, x0, x1, rfl, hr7, ho7⟩
          have S7 := Lib.hid (S6.out.go ho7.mostB hr7)
          have hB5 := S5.out.rdr.2.1
          have hblk : w7.heap[w5.heap.size]? = some (.cells #[.int .i64 0, .int .i64 998, .int .i64 (k : Int)] 3 (0, 0)) := by
            rw [ho7.block w5.heap.size (by omega)]
            exact heap_alloc_new _ _
          clear b6 S6 hr7 ho7 S5 hq
          rcases (by omega : x = 0 ∨ x = 1 ∨ x = 2) with rfl | rfl | rfl
          · have s0 : w7.cell? ⟨w5.heap.size, 0, none⟩ = some (.int .i64 0) := by simp [World.cell?, hblk]
            clear hblk
            go_wp2_with (at_builtin; refine wpList_append_own _ rfl _ _ 35 rfl (w.heap.size + 1) 3 i0 (.int .i64 0) 1 8 Try.underlying35 HI.out HZ0.out HZ1.out HZ2.out rfl (by decide) _ l.length (rowI l) rfl (S7.out.own.alloc _) ⟨w7.heap.size, 0, none⟩ 1 1 [.int .i64 0] rfl rfl (fun j u hu => cells_new j u hu) (by simp [Value.oneCell']) (by unfold maxLen; omega) (by omega) (by have := S7.out.low; simp; omega) ?_; intro v8 w8 hown8 hgrow8 _)
            have hb8 : Below (w.heap.size + 1) w7 w8 := ((Below.refl _ w7).alloc S7.out.low.2.2 (.cells #[.int .i64 0] 3)).trans (own_below (v := .slice (some ⟨g, 0, none⟩) l.length c) hgrow8 (by have := S7.out.low; simp; omega) (fun k hk => (own_lt S7.out.own k hk).1))
            have RR := Lib.hid (S7.out.rdr.keepK hb8 (by omega))
            have MM := Lib.hid (S7.out.most.below_ (hb8.mono (Nat.le_succ _)))
            have NN := Lib.hid ((NewI.of_own (own_put hown8)).from_ (Nat.le_succ w.heap.size))
            clear hown8 hgrow8 hb8
            go_ret
            exact ⟨_, l ++ [0], qq + 1 + 1, by omega, by simp; omega, rfl, NN.out, RR.out, MM.out⟩
          · have s0 : w7.cell? ⟨w5.heap.size, 1, none⟩ = some (.int .i64 998) := by simp [World.cell?, hblk]
            clear hblk
            go_wp2_with (at_builtin; refine wpList_append_own _ rfl _ _ 35 rfl (w.heap.size + 1) 3 i0 (.int .i64 0) 1 8 Try.underlying35 HI.out HZ0.out HZ1.out HZ2.out rfl (by decide) _ l.length (rowI l) rfl (S7.out.own.alloc _) ⟨w7.heap.size, 0, none⟩ 1 1 [.int .i64 998] rfl rfl (fun j u hu => cells_new j u hu) (by simp [Value.oneCell']) (by unfold maxLen; omega) (by omega) (by have := S7.out.low; simp; omega) ?_; intro v8 w8 hown8 hgrow8 _)
            have hb8 : Below (w.heap.size + 1) w7 w8 := ((Below.refl _ w7).alloc S7.out.low.2.2 (.cells #[.int .i64 998] 3)).trans (own_below (v := .slice (some ⟨g, 0, none⟩) l.length c) hgrow8 (by have := S7.out.low; simp; omega) (fun k hk => (own_lt S7.out.own k hk).1))
            have RR := Lib.hid (S7.out.rdr.keepK hb8 (by omega))
            have MM := Lib.hid (S7.out.most.below_ (hb8.mono (Nat.le_succ _)))
            have NN := Lib.hid ((NewI.of_own (own_put hown8)).from_ (Nat.le_succ w.heap.size))
            clear hown8 hgrow8 hb8
            go_ret
            exact ⟨_, l ++ [998], qq + 1 + 1, by omega, by simp; omega, rfl, NN.out, RR.out, MM.out⟩
          · have s0 : w7.cell? ⟨w5.heap.size, 2, none⟩ = some (.int .i64 (k : Int)) := by simp [World.cell?, hblk]
            clear hblk
            go_wp2_with (at_builtin; refine wpList_append_own _ rfl _ _ 35 rfl (w.heap.size + 1) 3 i0 (.int .i64 0) 1 8 Try.underlying35 HI.out HZ0.out HZ1.out HZ2.out rfl (by decide) _ l.length (rowI l) rfl (S7.out.own.alloc _) ⟨w7.heap.size, 0, none⟩ 1 1 [.int .i64 (k : Int)] rfl rfl (fun j u hu => cells_new j u hu) (by simp [Value.oneCell']) (by unfold maxLen; omega) (by omega) (by have := S7.out.low; simp; omega) ?_; intro v8 w8 hown8 hgrow8 _)
            have hb8 : Below (w.heap.size + 1) w7 w8 := ((Below.refl _ w7).alloc S7.out.low.2.2 (.cells #[.int .i64 (k : Int)] 3)).trans (own_below (v := .slice (some ⟨g, 0, none⟩) l.length c) hgrow8 (by have := S7.out.low; simp; omega) (fun k hk => (own_lt S7.out.own k hk).1))
            have RR := Lib.hid (S7.out.rdr.keepK hb8 (by omega))
            have MM := Lib.hid (S7.out.most.below_ (hb8.mono (Nat.le_succ _)))
            have NN := Lib.hid ((NewI.of_own (own_put hown8)).from_ (Nat.le_succ w.heap.size))
            clear hown8 hgrow8 hb8
            go_ret
            exact ⟨_, l ++ [(k : Int)], qq + 1 + 1, by omega, by simp; omega, rfl, NN.out, RR.out, MM.out⟩
        · have hq := h1
          go_wp2_with fail
          have b6 : Below w5.heap.size w5 (w5.alloc (.cells #[.int .i64 0, .int .i64 998, .int .i64 1] 3)) := (Below.refl _ _).alloc (Nat.le_refl _) _
          have S6 := Lib.hid (S5.out.keep b6)
          refine (pick_any base B (qq + 1) 3 _ S6.out.rdr (by omega) (by omega)).mono ?_
          rintro e w7 ⟨x, x0, x1, rfl, hr7, ho7⟩
          have S7 := Lib.hid (S6.out.go ho7.mostB hr7)
          have hB5 := S5.out.rdr.2.1
          have hblk : w7.heap[w5.heap.size]? = some (.cells #[.int .i64 0, .int .i64 998, .int .i64 1] 3 (0, 0)) := by
            rw [ho7.block w5.heap.size (by omega)]
            exact heap_alloc_new _ _
          clear b6 S6 hr7 ho7 S5 hq
          rcases (by omega : x = 0 ∨ x = 1 ∨ x = 2) with rfl | rfl | rfl
          · have s0 : w7.cell? ⟨w5.heap.size, 0, none⟩ = some (.int .i64 0) := by simp [World.cell?, hblk]
            clear hblk
            go_wp2_with (at_builtin; refine wpList_append_own _ rfl _ _ 35 rfl (w.heap.size + 1) 3 i0 (.int .i64 0) 1 8 Try.underlying35 HI.out HZ0.out HZ1.out HZ2.out rfl (by decide) _ l.length (rowI l) rfl (S7.out.own.alloc _) ⟨w7.heap.size, 0, none⟩ 1 1 [.int .i64 0] rfl rfl (fun j u hu => cells_new j u hu) (by simp [Value.oneCell']) (by unfold maxLen; omega) (by omega) (by have := S7.out.low; simp; omega) ?_; intro v8 w8 hown8 hgrow8 _)
            have hb8 : Below (w.heap.size + 1) w7 w8 := ((Below.refl _ w7).alloc S7.out.low.2.2 (.cells #[.int .i64 0] 3)).trans (own_below (v := .slice (some ⟨g, 0, none⟩) l.length c) hgrow8 (by have := S7.out.low; simp; omega) (fun k hk => (own_lt S7.out.own k hk).1))
            have RR := Lib.hid (S7.out.rdr.keepK hb8 (by omega))
            have MM := Lib.hid (S7.out.most.below_ (hb8.mono (Nat.le_succ _)))
            have NN := Lib.hid ((NewI.of_own (own_put hown8)).from_ (Nat.le_succ w.heap.size))
            clear hown8 hgrow8 hb8
            go_ret
            exact ⟨_, l ++ [0], qq + 1 + 1, by omega, by simp; omega, rfl, NN.out, RR.out, MM.out⟩
          · have s0 : w7.cell? ⟨w5.heap.size, 1, none⟩ = some (.int .i64 998) := by simp [World.cell?, hblk]
            clear hblk
            go_wp2_with (at_builtin; refine wpList_append_own _ rfl _ _ 35 rfl (w.heap.size + 1) 3 i0 (.int .i64 0) 1 8 Try.underlying35 HI.out HZ0.out HZ1.out HZ2.out rfl (by decide) _ l.length (rowI l) rfl (S7.out.own.alloc _) ⟨w7.heap.size, 0, none⟩ 1 1 [.int .i64 998] rfl rfl (fun j u hu => cells_new j u hu) (by simp [Value.oneCell']) (by unfold maxLen; omega) (by omega) (by have := S7.out.low; simp; omega) ?_; intro v8 w8 hown8 hgrow8 _)
            have hb8 : Below (w.heap.size + 1) w7 w8 := ((Below.refl _ w7).alloc S7.out.low.2.2 (.cells #[.int .i64 998] 3)).trans (own_below (v := .slice (some ⟨g, 0, none⟩) l.length c) hgrow8 (by have := S7.out.low; simp; omega) (fun k hk => (own_lt S7.out.own k hk).1))
            have RR := Lib.hid (S7.out.rdr.keepK hb8 (by omega))
            have MM := Lib.hid (S7.out.most.below_ (hb8.mono (Nat.le_succ _)))
            have NN := Lib.hid ((NewI.of_own (own_put hown8)).from_ (Nat.le_succ w.heap.size))
            clear hown8 hgrow8 hb8
            go_ret
            exact ⟨_, l ++ [998], qq + 1 + 1, by omega, by simp; omega, rfl, NN.out, RR.out, MM.out⟩
          · have s0 : w7.cell? ⟨w5.heap.size, 2, none⟩ = some (.int .i64 1) := by simp [World.cell?, hblk]
            clear hblk
            go_wp2_with (at_builtin; refine wpList_append_own _ rfl _ _ 35 rfl (w.heap.size + 1) 3 i0 (.int .i64 0) 1 8 Try.underlying35 HI.out HZ0.out HZ1.out HZ2.out rfl (by decide) _ l.length (rowI l) rfl (S7.out.own.alloc _) ⟨w7.heap.size, 0, none⟩ 1 1 [.int .i64 1] rfl rfl (fun j u hu => cells_new j u hu) (by simp [Value.oneCell']) (by unfold maxLen; omega) (by omega) (by have := S7.out.low; simp; omega) ?_; intro v8 w8 hown8 hgrow8 _)
            have hb8 : Below (w.heap.size + 1) w7 w8 := ((Below.refl _ w7).alloc S7.out.low.2.2 (.cells #[.int .i64 1] 3)).trans (own_below (v := .slice (some ⟨g, 0, none⟩) l.length c) hgrow8 (by have := S7.out.low; simp; omega) (fun k hk => (own_lt S7.out.own k hk).1))
            have RR := Lib.hid (S7.out.rdr.keepK hb8 (by omega))
            have MM := Lib.hid (S7.out.most.below_ (hb8.mono (Nat.le_succ _)))
            have NN := Lib.hid ((NewI.of_own (own_put hown8)).from_ (Nat.le_succ w.heap.size))
            clear hown8 hgrow8 hb8
            go_ret
            exact ⟨_, l ++ [1], qq + 1 + 1, by omega, by simp; omega, rfl, NN.out, RR.out, MM.out⟩
end Go.Proofs.Ytlcfldmiibjboaa
