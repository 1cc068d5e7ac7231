/-
  Plain mathematics of the laws on numbers: a number has its parts, its parts make it, and it has one check digit. Nothing of the program.
-/
import Derived.Test.YtkfpondpepegpaaDoorNiMath
import Derived.Test.YtkfpondpepegpaaDoorMisMath
namespace Go.Proofs.YtkfpondpepegpaaDoor
set_option linter.unusedVariables false

theorem append_list (a b : ByteArray) : (a ++ b).data.toList = a.data.toList ++ b.data.toList := by rw [ByteArray.data_append, Array.toList_append]
theorem head_append {a b : ByteArray} {n : Nat} (h : a.size = n) : (a ++ b).extract 0 n = a := by
  apply Go.WideShapes.bytes_inj
  have hl : a.data.toList.length = n := by rw [← size_list]; exact h
  rw [ext_head, append_list, ← hl, List.take_left]
theorem digS_one {d : Int} (h0 : 0 ≤ d) (h9 : d ≤ 9) : (digS d).data.toList = [UInt8.ofNat (48 + d.toNat)] := rfl
theorem byteAt_last {a b : ByteArray} {n : Nat} {x : UInt8} (h : a.size = n) (hb : b.data.toList = [x]) : byteAt (a ++ b) n = (x.toNat : Int) := by
  have hl : a.data.toList.length = n := by rw [← size_list]; exact h
  unfold byteAt
  rw [append_list, hb, List.getD_eq_getElem?_getD, List.getElem?_append_right (by omega), hl, Nat.sub_self]
  rfl

/-- A text of ten bytes with a digit behind it is a number just if the digit is the check digit. -/
theorem numOk_put {a b : ByteArray} {d : Nat} (h : a.size = 10) (hr : 0 ≤ crS a) (hd : d < 10) (hb : b.data.toList = [UInt8.ofNat (48 + d)]) :
    numOk (a ++ b) = decide ((d : Int) = crS a % 10) := by
  have hbs : b.size = 1 := by rw [size_list, hb]; rfl
  have hx := head_append (b := b) h
  have hl := byteAt_last (b := b) h hb
  rw [UInt8.toNat_ofNat'] at hl
  rw [numOk_of (by rw [ByteArray.size_append]; omega) (by rw [hx]; exact hr), hx, hl, decide_eq_decide]
  omega

/-- The value of digits. -/
def valD (l : List UInt8) : Int := l.foldl (fun a b => a * 10 + ((b.toNat : Int) - 48)) 0
theorem valD_snoc (l : List UInt8) (b : UInt8) : valD (l ++ [b]) = valD l * 10 + ((b.toNat : Int) - 48) := by
  unfold valD; rw [List.foldl_append]; rfl
theorem valD_digs : ∀ (k m : Nat), m < 10 ^ k → valD (digs k m) = m
  | 0, m, h => by
    obtain rfl : m = 0 := by omega
    rfl
  | k + 1, m, h => by
    have hp : 10 ^ (k + 1) = 10 ^ k * 10 := Nat.pow_succ _ _
    rw [digs, valD_snoc, valD_digs k (m / 10) (by omega), UInt8.toNat_ofNat']
    omega
theorem digs_valD : ∀ (k : Nat) (l : List UInt8), l.length = k → (∀ b ∈ l, isDig b) → 0 ≤ valD l ∧ digs k (valD l).toNat = l
  | 0, l, h, _ => by
    obtain rfl := List.eq_nil_of_length_eq_zero h
    exact ⟨Int.le_refl 0, rfl⟩
  | k + 1, l, h, hd => by
    have hne : l ≠ [] := by intro e; subst e; cases h
    obtain ⟨t, b, rfl⟩ : ∃ t b, l = t ++ [b] := ⟨l.dropLast, l.getLast hne, (List.dropLast_concat_getLast hne).symm⟩
    have hb := hd b (by simp)
    unfold isDig at hb
    obtain ⟨h0, h1⟩ := digs_valD k t (by simpa using h) (fun x hx => hd x (by simp [hx]))
    rw [valD_snoc]
    refine ⟨by omega, ?_⟩
    rw [digs]
    have e1 : (valD t * 10 + ((b.toNat : Int) - 48)).toNat / 10 = (valD t).toNat := by omega
    have e2 : 48 + (valD t * 10 + ((b.toNat : Int) - 48)).toNat % 10 = b.toNat := by omega
    rw [e1, e2, h1]
    congr 2
    apply UInt8.toNat_inj.1
    rw [UInt8.toNat_ofNat']
    have := b.toNat_lt
    omega
theorem serN_take (s : ByteArray) : ∀ j, 4 + j ≤ s.size → serN s j = valD ((s.data.toList.drop 4).take j)
  | 0, _ => rfl
  | j + 1, h => by
    have hl : 4 + j < s.data.toList.length := by rw [← size_list]; omega
    have hl' : j < (s.data.toList.drop 4).length := by rw [List.length_drop]; omega
    rw [List.take_succ_eq_append_getElem hl', valD_snoc, ← serN_take s j (by omega), serN]
    unfold byteAt
    rw [List.getD_eq_getElem?_getD, List.getElem?_eq_getElem hl, Option.getD_some, List.getElem_drop]

/-- A number that was made has its parts. -/
theorem numS_parts {o : ByteArray} {k m : Int} (hne : numS o k m ≠ ⟨#[]⟩) :
    numOk (numS o k m) = true ∧ (numS o k m).extract 0 3 = o ∧ serS (numS o k m) = m ∧ 3 ≤ (numS o k m).size ∧ (numS o k m).size ≤ 11 := by
  have hin : 0 ≤ k ∧ k ≤ 2 ∧ 0 ≤ m ∧ m ≤ 999999 := by
    by_cases h : 0 ≤ k ∧ k ≤ 2 ∧ 0 ≤ m ∧ m ≤ 999999
    · exact h
    · exact absurd (numS_out h) hne
  have hc : 0 ≤ crS (numText o k m) := by
    by_cases h : crS (numText o k m) < 0
    · exact absurd (numS_none h) hne
    · omega
  have hf := crS_form_of hc
  have hsz := formB_size hf
  have hbd := crS_bd (numText o k m)
  have ho : o.size = 3 := by have := numText_size (o := o) hin.1 hin.2.1 hin.2.2.1 hin.2.2.2; omega
  rw [numS_digS hin hc]
  have hok : numOk (numText o k m ++ digS (crS (numText o k m) % 10)) = true := by
    rw [numOk_put hsz hc (d := (crS (numText o k m) % 10).toNat) (by omega) (digS_one (by omega) (by omega))]
    exact decide_eq_true (by omega)
  have hol : o.data.toList.length = 3 := by rw [← size_list]; exact ho
  have hlist : (numText o k m ++ digS (crS (numText o k m) % 10)).data.toList = o.data.toList ++ (ujzB k :: (pad6 m.toNat).data.toList) ++ (digS (crS (numText o k m) % 10)).data.toList := by
    rw [append_list, numText_list hin.1 hin.2.1]
  have hsize : (numText o k m ++ digS (crS (numText o k m) % 10)).size = 11 := by
    rw [ByteArray.size_append, hsz]; rfl
  refine ⟨hok, ?_, ?_, by omega, by omega⟩
  · apply Go.WideShapes.bytes_inj
    rw [ext_head, hlist, List.append_assoc, ← hol, List.take_left]
  · rw [serS_yes hok, serN_take _ 6 (by omega), hlist]
    have hp := pad6_len (m := m.toNat) (by omega)
    have e : ((o.data.toList ++ (ujzB k :: (pad6 m.toNat).data.toList) ++ (digS (crS (numText o k m) % 10)).data.toList).drop 4).take 6 = (pad6 m.toNat).data.toList := by
      rw [show 4 = o.data.toList.length + 1 by omega, List.append_assoc, List.drop_append, List.drop_eq_nil_of_le (by omega), show o.data.toList.length + 1 - o.data.toList.length = 1 by omega]
      show List.take 6 ((pad6 m.toNat).data.toList ++ _) = _
      rw [← hp, List.take_left]
    rw [e, pad6_list, pad_digs 5 m.toNat (by omega), valD_digs 6 m.toNat (by omega)]
    omega
theorem serS_neg {s : ByteArray} (h : serS s < 0) : numOk s = false ∧ serS s = -1 := by
  cases hok : numOk s
  · exact ⟨rfl, serS_no hok⟩
  · have := serN_le hok 6 (by omega)
    rw [serS_yes hok] at h
    omega

def kindOf (c : Int) : Int := if c = 90 then 2 else if c = 74 then 1 else 0
/-- The parts of a number make it. -/
theorem numS_of_parts {s : ByteArray} (hok : numOk s = true) : numS (s.extract 0 3) (kindOf (byteAt s 3)) (serN s 6) = s := by
  obtain ⟨hs, hr, hlast⟩ := numOk_yes hok
  have hf := crS_form_of hr
  have hser := serN_le hok 6 (by omega)
  have hk : 0 ≤ kindOf (byteAt s 3) ∧ kindOf (byteAt s 3) ≤ 2 := by unfold kindOf; split <;> (try split) <;> omega
  have hl : s.data.toList.length = 11 := by rw [← size_list]; exact hs
  have h3 : byteAt s 3 = 85 ∨ byteAt s 3 = 74 ∨ byteAt s 3 = 90 := by
    have := formB_fits hf 3 (by omega)
    rw [byteAt_head (by omega)] at this
    unfold fitsB at this
    have := of_decide_eq_true this
    omega
  have hdig : ∀ b ∈ (s.data.toList.drop 4).take 6, isDig b := by
    intro b hb
    obtain ⟨j, hj, rfl⟩ := List.mem_iff_getElem.1 hb
    have hj6 : j < 6 := by rw [List.length_take, List.length_drop] at hj; omega
    have := num_digit hok j hj6
    unfold byteAt at this
    rw [List.getD_eq_getElem?_getD, List.getElem?_eq_getElem (by omega), Option.getD_some] at this
    rw [List.getElem_take, List.getElem_drop]
    unfold isDig
    omega
  obtain ⟨-, hdv⟩ := digs_valD 6 ((s.data.toList.drop 4).take 6) (by rw [List.length_take, List.length_drop]; omega) hdig
  rw [← serN_take s 6 (by omega)] at hdv
  have huj : ujzB (kindOf (byteAt s 3)) = s.data.toList[3] := by
    have e : byteAt s 3 = (s.data.toList[3].toNat : Int) := byteAt_list rfl 3 (by omega)
    apply UInt8.toNat_inj.1
    rw [e] at h3
    rcases h3 with h | h | h
    · have : kindOf (byteAt s 3) = 0 := by unfold kindOf; rw [e]; split <;> (try split) <;> omega
      rw [this]; show (85 : Nat) = s.data.toList[3].toNat; omega
    · have : kindOf (byteAt s 3) = 1 := by unfold kindOf; rw [e]; split <;> (try split) <;> omega
      rw [this]; show (74 : Nat) = s.data.toList[3].toNat; omega
    · have : kindOf (byteAt s 3) = 2 := by unfold kindOf; rw [e]; split <;> (try split) <;> omega
      rw [this]; show (90 : Nat) = s.data.toList[3].toNat; omega
  have htext : numText (s.extract 0 3) (kindOf (byteAt s 3)) (serN s 6) = s.extract 0 10 := by
    apply Go.WideShapes.bytes_inj
    rw [numText_list hk.1 hk.2, ext_head, ext_head, pad6_list, pad_digs 5 (serN s 6).toNat (by omega), hdv, huj]
    have e1 : s.data.toList.take 10 = s.data.toList.take 3 ++ (s.data.toList.drop 3).take 7 := by
      rw [← List.take_add]
    rw [e1]
    congr 1
    rw [List.drop_eq_getElem_cons (show 3 < s.data.toList.length by omega), List.take_succ_cons]
  have hc := crS_bd (s.extract 0 10)
  rw [numS_digS ⟨hk.1, hk.2, by omega, by omega⟩ (by rw [htext]; exact hr), htext, ← (last_eq hs (by omega) (by omega)).2 hlast]
  apply Go.WideShapes.bytes_inj
  rw [append_list, ext_head, ext_tail, List.take_append_drop]
end Go.Proofs.YtkfpondpepegpaaDoor
