/-
  The contract of the program's StackTake.
-/
import Derived.Test.YtdmbahpifbidlaaPpI
import Derived.Test.YtdmbahpifbidlaaPsI
import Derived.Test.YtdmbahpifbidlaaMkI
namespace Go.Proofs.Ytdmbahpifbidlaa
open Go.RowKit
set_option linter.unusedVariables false

/-- What the program's StackTake gives: memory of the call's own, that can be written. -/
def TakeGivesF (l : List Int) (high : Int) (w : World) (e : Ending) (w' : World) : Prop :=
  ∃ v, e = .returned (.tuple #[v, .int .i64 (takeS l high).2]) ∧ FreeE w.heap.size w' v (takeS l high).1 ∧ Below w.heap.size w w'
theorem takeS_len {l : List Int} {high : Int} : (takeS l high).1.length ≤ l.length := by
  unfold takeS
  split
  · simp only [List.length_take]; omega
  · simp
theorem FreeAt.setOther {g B : Nat} {w : World} {v : Value} {l : List Int} (h : FreeAt g w v l) (hne : g ≠ B) (o : Nat) (u : Value) : FreeAt g (w.setCell ⟨B, o, none⟩ u) v l := by
  obtain ⟨cap, h1, h3, h4, h5, cur, T, h6, h7⟩ := h
  exact ⟨cap, h1, by simpa [World.setCell] using h3, h4, h5, cur, T, by rw [Below.heap_setCell _ _ _ _ hne]; exact h6, h7⟩

theorem FreeE.setOther {K B : Nat} {w : World} {v : Value} {l : List Int} (h : FreeE K w v l) (hne : ∀ k, v.ownBlock = some k → k ≠ B) (o : Nat) (u : Value) : FreeE K (w.setCell ⟨B, o, none⟩ u) v l := by
  rcases h with h | ⟨g, hg, h⟩
  · exact .inl h
  · have h1 : v.ownBlock = some g := by obtain ⟨cap, rfl, _⟩ := h; rfl
    exact .inr ⟨g, hg, h.setOther (hne g h1) o u⟩

theorem implStackTake_bad (v : Value) (l : List Int) (high : Int) (w : World) (h : HoldsI w v l) (hok : stOk l high = false) :
    Calls Try.prog 67 #[v, .int .i64 high] w (TakeGivesF l high w) := by
  have HV := Lib.hid (implStackValid_any v l high w h)
  rw [hok] at HV
  unfold TakeGivesF
  rw [takeS_no (.inl hok)]
  clear hok h
  go_enter Try.func67, Try.ntmps67
  go_wp2_with fail
  refine HV.out.mono ?_
  rintro e w2 ⟨rfl, b2⟩
  go_wp2_with fail
  go_ret2
  exact ⟨_, rfl, .inl ⟨rfl, _, _, rfl, Nat.zero_le _, fun _ => rfl⟩, b2⟩

set_option maxHeartbeats 2000000 in
theorem implStackTake_good (v : Value) (l : List Int) (high : Int) (w : World) (h : HoldsI w v l) (hok : stOk l high = true) :
    Calls Try.prog 67 #[v, .int .i64 high] w (TakeGivesF l high w) := by
  have HV := Lib.hid (implStackValid_any v l high w h)
  have hlen := stOk_len hok
  have HH := Lib.hid h
  have HC := Lib.hid fun w' (hb : Below w.heap.size w w') => slClone_any v l w' (HH.out.keep hb) (by omega)
  rw [hok] at HV
  clear h
  unfold TakeGivesF
  by_cases hz : l.length = 0
  · rw [takeS_no (.inr hz)]
    obtain rfl := List.eq_nil_of_length_eq_zero hz
    have HP := Lib.hid fun B a cap w' hB => stackTake_none B a cap w' hB
    clear hok hlen hz HH
    go_enter Try.func67, Try.ntmps67
    go_wp2_with fail
    refine HV.out.mono ?_
    rintro e w2 ⟨rfl, b2⟩
    go_wp2_with fail
    refine (HC.out _ b2).mono ?_
    rintro e w3 ⟨u, rfl, own3, b3⟩
    obtain ⟨cu, pu, rfl⟩ : ∃ (x : Option Addr) (z : Nat), u = .slice x 0 z := by
      rcases own3.2 with ⟨rfl, _⟩ | ⟨g, cap, cur, rfl, _⟩
      · exact ⟨_, _, rfl⟩
      · exact ⟨_, _, rfl⟩
    have hv3 : VarAt w3.heap.size (w3.alloc (.cells #[.slice cu 0 pu] 84)) (.slice cu 0 pu) := heap_alloc_new _ _
    have HB := Lib.hid (b2.trans ((b3.alloc b3.size (.cells #[.slice cu 0 pu] 84)).mono b2.size))
    have HP3 := Lib.hid (HP.out _ _ _ _ hv3)
    clear own3 b3 hv3 HP
    go_wp2_with fail
    refine HP3.out.mono ?_
    rintro e w4 ⟨rfl, rfl⟩
    go_wp2_with fail
    go_ret2
    exact ⟨_, rfl, .inl ⟨rfl, _, _, rfl, Nat.zero_le _, fun _ => rfl⟩, HB.out⟩
  · obtain ⟨n, hn⟩ : ∃ n, l.length = n + 1 := ⟨l.length - 1, by omega⟩
    rw [takeS_yes hok (by omega)]
    have e1 : l.length - 1 = n := by omega
    simp only [e1]
    have hnl : n < l.length := by omega
    obtain ⟨x, hx⟩ : ∃ x, x = l[n]'hnl := ⟨_, rfl⟩
    rw [← hx]
    have HX := Lib.hid hx
    clear hx
    have HP := Lib.hid fun B b cap x w' h1 h2 hB s0 => stackTake_some B b n cap x w' h1 h2 hB s0
    clear hok hlen hz HH
    go_enter Try.func67, Try.ntmps67
    go_wp2_with fail
    refine HV.out.mono ?_
    rintro e w2 ⟨rfl, b2⟩
    go_wp2_with fail
    refine (HC.out _ b2).mono ?_
    rintro e w3 ⟨u, rfl, own3, b3⟩
    have hF := FreeE.of_own own3
    rcases hF with ⟨h0, _⟩ | ⟨g, hg, hat⟩
    · rw [h0] at hn; simp at hn
    have hne : g ≠ w3.heap.size := Nat.ne_of_lt hat.lt
    have hgl := hat.lt
    obtain ⟨cap, hu, q3, q4, q5, cur, T, q6, q7, q8⟩ := hat
    rw [hn] at hu q4 q7
    subst hu
    have hF2 : FreeE w2.heap.size w3 (.slice (some ⟨g, 0, none⟩) n cap) (l.take n) := FreeE.take n (by omega) (.inr ⟨g, hg, cap, by rw [hn], q3, by omega, q5, cur, T, q6, by omega, q8⟩)
    have hv3 : VarAt w3.heap.size (w3.alloc (.cells #[.slice (some ⟨g, 0, none⟩) (n + 1) cap] 84)) (.slice (some ⟨g, 0, none⟩) (n + 1) cap) := heap_alloc_new _ _
    have s3 : (w3.alloc (.cells #[.slice (some ⟨g, 0, none⟩) (n + 1) cap] 84)).cell? ⟨g, n, none⟩ = some (.int .i64 x) := by
      rw [HX.out]
      rw [World.cell?_of_block (w := w3) (Go.heap_alloc_old w3 _ hgl)]
      simp only [World.cell?, q6]
      exact q8 n (by omega)
    have b3' := b3.alloc b3.size (.cells #[.slice (some ⟨g, 0, none⟩) (n + 1) cap] 84)
    have HP3 := Lib.hid (HP.out _ _ _ _ _ q4 (by unfold maxLen at q5; omega) hv3 s3)
    have HVV := Lib.hid (hv3.set (.slice (some ⟨g, 0, none⟩) n cap))
    have hb4 := b3'.setCell (p := ⟨w3.heap.size, 0, none⟩) b3.size (.slice (some ⟨g, 0, none⟩) n cap)
    have HB := Lib.hid (b2.trans (hb4.mono b2.size))
    have hF3 := hF2.keep ((Below.refl _ _).alloc (Nat.le_refl _) (.cells #[.slice (some ⟨g, 0, none⟩) (n + 1) cap] 84))
    have HF4 := Lib.hid (hF3.setOther (B := w3.heap.size) (fun k hk => by have e : g = k := (by simpa [Value.ownBlock] using hk); omega) 0 (.slice (some ⟨g, 0, none⟩) n cap))
    clear own3 b3 hv3 HP hF2 hF3 s3 b3' hb4 q3 q4 q5 q6 q7 q8
    go_wp2_with fail
    refine HP3.out.mono ?_
    rintro e w4 ⟨rfl, hw4⟩
    rw [← hw4] at HVV HB HF4
    have c4 := HVV.out.cell
    clear hw4
    go_wp2_with fail
    go_ret2
    exact ⟨_, rfl, HF4.out.from_ b2.size, HB.out⟩
theorem implStackTake_any (v : Value) (l : List Int) (high : Int) (w : World) (h : HoldsI w v l) :
    Calls Try.prog 67 #[v, .int .i64 high] w (TakeGivesF l high w) := by
  cases hok : stOk l high
  · exact implStackTake_bad v l high w h hok
  · exact implStackTake_good v l high w h hok
end Go.Proofs.Ytdmbahpifbidlaa
