/-
  Plain mathematics: a text that is cut at its colon and slashes, and whose parts read as the numbers of a valid box, is the text of the box; and only such a text is. Nothing of the program.
-/
import Derived.Test.YtjnoekhdkmgagaaDoorRbMath
import Derived.Test.YtjnoekhdkmgagaaDoorCuMath
namespace Go.Proofs.YtjnoekhdkmgagaaDoor
set_option linter.unusedVariables false

theorem byte_at (s : ByteArray) (k : Nat) (h : k < s.data.toList.length) : byteAt s k = ((s.data.toList[k]).toNat : Int) := by
  unfold byteAt
  rw [List.getD_eq_getElem?_getD, List.getElem?_eq_getElem h]; rfl
/-- Two texts that read as the same number are the same. -/
theorem rd_inj {s t : ByteArray} (hs : rdOk s) (ht : rdOk t) (h : rdUp s s.size = rdUp t t.size) : s = t := by
  obtain ⟨s1, s3, sz, sd⟩ := hs
  obtain ⟨t1, t3, tz, td⟩ := ht
  have key : s.size = t.size ∧ ∀ k, k < s.size → byteAt s k = byteAt t k := by
    have a0 := sd 0 (by omega)
    have b0 := td 0 (by omega)
    obtain e | e | e : s.size = 1 ∨ s.size = 2 ∨ s.size = 3 := by omega
    · obtain f | f | f : t.size = 1 ∨ t.size = 2 ∨ t.size = 3 := by omega
      · rw [e, f] at h; simp only [rdUp] at h
        exact ⟨by omega, fun k hk => by obtain rfl : k = 0 := by omega
                                        omega⟩
      · have b1 := td 1 (by omega)
        have : byteAt t 0 ≠ 48 := fun q => tz ⟨by omega, q⟩
        rw [e, f] at h; simp only [rdUp] at h; omega
      · have b1 := td 1 (by omega)
        have b2 := td 2 (by omega)
        have : byteAt t 0 ≠ 48 := fun q => tz ⟨by omega, q⟩
        rw [e, f] at h; simp only [rdUp] at h; omega
    · have a1 := sd 1 (by omega)
      have : byteAt s 0 ≠ 48 := fun q => sz ⟨by omega, q⟩
      obtain f | f | f : t.size = 1 ∨ t.size = 2 ∨ t.size = 3 := by omega
      · rw [e, f] at h; simp only [rdUp] at h; omega
      · have b1 := td 1 (by omega)
        have : byteAt t 0 ≠ 48 := fun q => tz ⟨by omega, q⟩
        rw [e, f] at h; simp only [rdUp] at h
        refine ⟨by omega, fun k hk => ?_⟩
        obtain rfl | rfl : k = 0 ∨ k = 1 := by omega
        · omega
        · omega
      · have b1 := td 1 (by omega)
        have b2 := td 2 (by omega)
        have : byteAt t 0 ≠ 48 := fun q => tz ⟨by omega, q⟩
        rw [e, f] at h; simp only [rdUp] at h; omega
    · have a1 := sd 1 (by omega)
      have a2 := sd 2 (by omega)
      have : byteAt s 0 ≠ 48 := fun q => sz ⟨by omega, q⟩
      obtain f | f | f : t.size = 1 ∨ t.size = 2 ∨ t.size = 3 := by omega
      · rw [e, f] at h; simp only [rdUp] at h; omega
      · have b1 := td 1 (by omega)
        rw [e, f] at h; simp only [rdUp] at h; omega
      · have b1 := td 1 (by omega)
        have b2 := td 2 (by omega)
        rw [e, f] at h; simp only [rdUp] at h
        refine ⟨by omega, fun k hk => ?_⟩
        obtain rfl | rfl | rfl : k = 0 ∨ k = 1 ∨ k = 2 := by omega
        · omega
        · omega
        · omega
  obtain ⟨e, hb⟩ := key
  apply ba_ext
  apply List.ext_getElem (by rw [ba_len, ba_len, e])
  intro k h1 h2
  have h3 := hb k (by rw [ba_len] at h1; exact h1)
  rw [byte_at s k h1, byte_at t k h2] at h3
  exact UInt8.toNat_inj.1 (by omega)

theorem rd_empty {v : Int} (h : RdIs ⟨#[]⟩ v) : v = -1 := by
  rcases h with ⟨h, _⟩ | ⟨_, h⟩
  · exact absurd h.1 (by decide)
  · exact h
theorem rd_is {s : ByteArray} {v : Int} (h : RdIs s v) (h0 : 0 ≤ v) : v ≤ 999 ∧ s = decB v := by
  rcases h with ⟨h1, h2⟩ | ⟨_, h2⟩
  · have hb := rdUp_bd s h1.2.2.2 s.size (Nat.le_refl _) h1.2.1
    have hd := rd_dec (n := v) h0 (by omega)
    exact ⟨by omega, rd_inj h1 hd.1 (by rw [hd.2, ← h2])⟩
  · omega
theorem rd_of {n v : Int} (h0 : 0 ≤ n) (h1 : n ≤ 999) (h : RdIs (decB n) v) : v = n := by
  have hd := rd_dec h0 h1
  rcases h with ⟨_, h2⟩ | ⟨h2, _⟩
  · rw [h2, hd.2]
  · exact absurd hd.1 h2
theorem cut_empty {c : UInt8} {b a : ByteArray} {f : Bool} (h : CutIs ⟨#[]⟩ c b a f) : b = ⟨#[]⟩ ∧ a = ⟨#[]⟩ := by
  rcases h with ⟨_, h, _⟩ | ⟨_, h, h', _⟩
  · simp at h
  · exact ⟨h, h'⟩
theorem tail_empty {c : UInt8} {b : ByteArray} {f : Bool} (h : TailIs ⟨#[]⟩ c b f) : b = ⟨#[]⟩ := by
  rcases h with ⟨_, h⟩ | ⟨_, h, _⟩
  · simp at h
  · exact h
theorem cut_of {s b a : ByteArray} {c : UInt8} {f : Bool} {x y : List UInt8} (h : CutIs s c b a f) (hs : s.data.toList = x ++ c :: y) (hx : c ∉ x) : b.data.toList = x ∧ a.data.toList = y := by
  rcases h with ⟨_, h, hb⟩ | ⟨_, _, _, h⟩
  · rw [h] at hs
    exact sep_inj c _ _ _ _ hb hx hs
  · exact absurd (by rw [hs]; simp) h

/-- The parts of a text, read: a box's. -/
theorem parts_read {s t1 t2 t3 a1 a2 a3 a4 : ByteArray} {f1 f2 f3 cold : Bool} {i g c p : Int} (h1 : CutIs s 58 a1 t1 f1) (h2 : CutIs t1 47 a2 t2 f2) (h3 : CutIs t2 47 a3 t3 f3) (h4 : TailIs t3 99 a4 cold)
    (r1 : RdIs a1 i) (r2 : RdIs a2 g) (r3 : RdIs a3 c) (r4 : RdIs a4 p) :
    (bxOk i g c p = true → RbIs s ⟨i, g, c, p, cold⟩ true) ∧ (bxOk i g c p = false → RbIs s Bx.zero false) := by
  refine ⟨fun hok => .inl ⟨rfl, hok, ?_⟩, fun hno => .inr ⟨rfl, rfl, fun i' g' c' p' d' hok he => ?_⟩⟩
  · have hb := bxOk_yes hok
    have e1 := (rd_is r1 (by omega)).2
    have e2 := (rd_is r2 (by omega)).2
    have e3 := (rd_is r3 (by omega)).2
    have e4 := (rd_is r4 (by omega)).2
    have k1 : s.data.toList = a1.data.toList ++ 58 :: t1.data.toList := by
      rcases h1 with ⟨_, h, _⟩ | ⟨_, _, h, _⟩
      · exact h
      · subst h
        have := rd_empty (by rw [← (cut_empty h2).1]; exact r2)
        omega
    have k2 : t1.data.toList = a2.data.toList ++ 47 :: t2.data.toList := by
      rcases h2 with ⟨_, h, _⟩ | ⟨_, _, h, _⟩
      · exact h
      · subst h
        have := rd_empty (by rw [← (cut_empty h3).1]; exact r3)
        omega
    have k3 : t2.data.toList = a3.data.toList ++ 47 :: t3.data.toList := by
      rcases h3 with ⟨_, h, _⟩ | ⟨_, _, h, _⟩
      · exact h
      · subst h
        have := rd_empty (by rw [← tail_empty h4]; exact r4)
        omega
    have k4 : t3.data.toList = a4.data.toList ++ (if cold = true then [99] else []) := by
      rcases h4 with ⟨h, h'⟩ | ⟨h, h', _⟩
      · rw [h]; exact h'
      · rw [h, h']; simp
    apply ba_ext
    rw [bt_list, k1, k2, k3, k4, e1, e2, e3, e4]
  · have hb := bxOk_yes hok
    have hl := congrArg (fun s : ByteArray => s.data.toList) he
    simp only [bt_list] at hl
    obtain ⟨e1, l1⟩ := cut_of h1 hl.symm (dec_none (by omega) (by omega) 58 (.inr (by decide)))
    obtain ⟨e2, l2⟩ := cut_of h2 l1 (dec_none (by omega) (by omega) 47 (.inl (by decide)))
    obtain ⟨e3, l3⟩ := cut_of h3 l2 (dec_none (by omega) (by omega) 47 (.inl (by decide)))
    have e4 : a4.data.toList = (decB p').data.toList := by
      cases d'
      · have l3' : t3.data.toList = (decB p').data.toList := by simpa using l3
        rcases h4 with ⟨_, h⟩ | ⟨_, h, _⟩
        · exfalso
          have : (99 : UInt8) ∈ (decB p').data.toList := by rw [← l3', h]; simp
          exact dec_none (by omega) (by omega) 99 (.inr (by decide)) this
        · rw [h]; exact l3'
      · have l3' : t3.data.toList = (decB p').data.toList ++ [99] := by simpa using l3
        rcases h4 with ⟨_, h⟩ | ⟨_, _, h⟩
        · rw [h] at l3'
          exact List.append_cancel_right l3'
        · exact absurd l3' (h _)
    have q1 := rd_of (v := i) (by omega) (by omega) (by rw [← ba_ext e1]; exact r1 : RdIs (decB i') i)
    have q2 := rd_of (v := g) (by omega) (by omega) (by rw [← ba_ext e2]; exact r2 : RdIs (decB g') g)
    have q3 := rd_of (v := c) (by omega) (by omega) (by rw [← ba_ext e3]; exact r3 : RdIs (decB c') c)
    have q4 := rd_of (v := p) (by omega) (by omega) (by rw [← ba_ext e4]; exact r4 : RdIs (decB p') p)
    rw [q1, q2, q3, q4, hok] at hno
    cases hno
end Go.Proofs.YtjnoekhdkmgagaaDoor
