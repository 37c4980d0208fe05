/-
  What GetInt of the document's answer (package lumref) answers.
-/
import Derived.Test.YtcgecafajgoeeaaDoorShelfPre
import Derived.Test.YtcgecafajgoeeaaDoorRefPut
import Derived.Test.YtcgecafajgoeeaaDoorRefTurn
namespace Go.Proofs.YtcgecafajgoeeaaDoor
open Go.RowKit
set_option maxRecDepth 4000

theorem xor255 (b : UInt8) : b ^^^ UInt8.ofNat 255 = 0 ↔ b = 255 := by
  simp

/-- what is said of k digits from the second byte on, turned by t -/
theorem read_mid (s : ByteArray) (k t : Nat) (h8 : k ≤ 8) (hl : 1 + k ≤ s.size) (hd : ¬ (0 < k ∧ s.data.toList.tail.headD 0 ^^^ UInt8.ofNat t = 0)) :
    Nm.readN s.data.toList.tail k t = (Nm.val (Nm.tn t (s.data.toList.tail.take k)), 0) := by
  rw [Nm.readN, if_neg (by omega), if_neg (by rw [tail_length]; omega), if_neg hd]
theorem read_bad (s : ByteArray) (k t : Nat) (h8 : k ≤ 8) (hl : 1 + k ≤ s.size) (hd : 0 < k ∧ s.data.toList.tail.headD 0 ^^^ UInt8.ofNat t = 0) :
    Nm.readN s.data.toList.tail k t = (0, 4) := by
  rw [Nm.readN, if_neg (by omega), if_neg (by rw [tail_length]; omega), if_pos hd]
theorem read_short (s : ByteArray) (k t : Nat) (h8 : k ≤ 8) (hp : 0 < s.size) (hl : s.size < 1 + k) :
    Nm.readN s.data.toList.tail k t = (0, 3) := by
  rw [Nm.readN, if_neg (by omega), if_pos (by rw [tail_length]; omega)]

set_option maxRecDepth 100000 in
set_option maxHeartbeats 1000000 in
theorem rgetI_hi_short (s : ByteArray) (w : World) (hs : s.size ≤ 9223372036854775807) (hp : 0 < s.size) (c : UInt8) (hc : s[0] = c) (kk : Nat) (hcc : c.toNat = 128 + kk) (h8 : kk ≤ 8) (hl : s.size < 1 + kk) :
    Calls Tryd.prog 45 #[.string s] w fun e w' => e = .returned (.tuple #[.int .i64 0, .int .i64 0, .int .i64 3]) ∧ Below w.heap.size w w' := by
  have hz : ((s.size : Int) == 0) = false := beq_eq_false_iff_ne.2 (by omega)
  have hb := c.toNat_lt
  have c1 : 128 ≤ c.toNat := by omega
  have c2 : c.toNat ≤ 136 := by omega
  have hl' : s.size < 1 + c.toNat - 128 := by omega
  clear hcc hl h8
  go_enter Tryd.func45, Tryd.ntmps45
  go_wp2_with fail
  go_ret3
  exact ⟨rfl, Below.refl _ _⟩

set_option maxRecDepth 100000 in
set_option maxHeartbeats 1000000 in
theorem rgetI_hi_bad (s : ByteArray) (w : World) (hs : s.size ≤ 9223372036854775807) (hp : 0 < s.size) (c : UInt8) (hc : s[0] = c) (kk : Nat) (hcc : c.toNat = 128 + kk) (h8 : kk ≤ 8) (hl : 1 + kk ≤ s.size) (V : Nat) (HV : Hid (Nm.val (s.data.toList.tail.take kk) = V)) (HP0 : Lib.hasPrefix (s.data.toList.tail.take kk) [0] = true) :
    Calls Tryd.prog 45 #[.string s] w fun e w' => e = .returned (.tuple #[.int .i64 0, .int .i64 0, .int .i64 4]) ∧ Below w.heap.size w w' := by
  have hz : ((s.size : Int) == 0) = false := beq_eq_false_iff_ne.2 (by omega)
  have hb := c.toNat_lt
  have c1 : 128 ≤ c.toNat := by omega
  have c2 : c.toNat ≤ 136 := by omega
  have hl' : 1 + c.toNat - 128 ≤ s.size := by omega
  have HM : Hid ((s.extract 1 (1 + c.toNat - 128)).data.toList = s.data.toList.tail.take kk) := by show (s.extract 1 (1 + c.toNat - 128)).data.toList = _; rw [show 1 + c.toNat - 128 = 1 + kk from by omega, mid_data]
  have HP : Hid (Lib.hasPrefix (s.data.toList.tail.take kk) [0] = true) := HP0
  clear hcc hl HP0
  go_enter Tryd.func45, Tryd.ntmps45
  go_wp2_with fail
  refine (number_any 8 _ _ (by simp only [ByteArray.size_extract]; omega) (by omega)).mono ?_
  rintro e w2 ⟨rfl, m, rfl⟩
  rw [HM.out, HV.out]
  have hbb : Below w.heap.size w (w.drewN m) := below_drewN (Below.refl _ _) m
  go_wp2_with fail
  refine (Tryd.strings_HasPrefix _ _ _).mono ?_
  rintro e w3 ⟨rfl, rfl⟩
  rw [show ({ data := #[0] } : ByteArray).data.toList = [0] from rfl, HM.out, HP.out]
  go_wp2_with fail
  go_ret3
  exact ⟨rfl, hbb⟩

set_option maxRecDepth 100000 in
set_option maxHeartbeats 1000000 in
theorem rgetI_hi_big (s : ByteArray) (w : World) (hs : s.size ≤ 9223372036854775807) (hp : 0 < s.size) (c : UInt8) (hc : s[0] = c) (kk : Nat) (hcc : c.toNat = 128 + kk) (h8 : kk ≤ 8) (hl : 1 + kk ≤ s.size) (V : Nat) (HV : Hid (Nm.val (s.data.toList.tail.take kk) = V)) (HP0 : Lib.hasPrefix (s.data.toList.tail.take kk) [0] = false) (hm : 9223372036854775807 < V) :
    Calls Tryd.prog 45 #[.string s] w fun e w' => e = .returned (.tuple #[.int .i64 0, .int .i64 0, .int .i64 4]) ∧ Below w.heap.size w w' := by
  have hz : ((s.size : Int) == 0) = false := beq_eq_false_iff_ne.2 (by omega)
  have hb := c.toNat_lt
  have c1 : 128 ≤ c.toNat := by omega
  have c2 : c.toNat ≤ 136 := by omega
  have hl' : 1 + c.toNat - 128 ≤ s.size := by omega
  have HM : Hid ((s.extract 1 (1 + c.toNat - 128)).data.toList = s.data.toList.tail.take kk) := by show (s.extract 1 (1 + c.toNat - 128)).data.toList = _; rw [show 1 + c.toNat - 128 = 1 + kk from by omega, mid_data]
  have HP : Hid (Lib.hasPrefix (s.data.toList.tail.take kk) [0] = false) := HP0
  clear hcc hl HP0
  go_enter Tryd.func45, Tryd.ntmps45
  go_wp2_with fail
  refine (number_any 8 _ _ (by simp only [ByteArray.size_extract]; omega) (by omega)).mono ?_
  rintro e w2 ⟨rfl, m, rfl⟩
  rw [HM.out, HV.out]
  have hbb : Below w.heap.size w (w.drewN m) := below_drewN (Below.refl _ _) m
  go_wp2_with fail
  refine (Tryd.strings_HasPrefix _ _ _).mono ?_
  rintro e w3 ⟨rfl, rfl⟩
  rw [show ({ data := #[0] } : ByteArray).data.toList = [0] from rfl, HM.out, HP.out]
  have hdec : decide ((9223372036854775808 : Int) ≤ (V : Int)) = true := decide_eq_true (by omega)
  clear hm
  go_wp2_with fail
  go_ret3
  exact ⟨rfl, hbb⟩

set_option maxRecDepth 100000 in
set_option maxHeartbeats 1000000 in
theorem rgetI_hi_ok (s : ByteArray) (w : World) (hs : s.size ≤ 9223372036854775807) (hp : 0 < s.size) (c : UInt8) (hc : s[0] = c) (kk : Nat) (hcc : c.toNat = 128 + kk) (h8 : kk ≤ 8) (hl : 1 + kk ≤ s.size) (V : Nat) (HV : Hid (Nm.val (s.data.toList.tail.take kk) = V)) (HP0 : Lib.hasPrefix (s.data.toList.tail.take kk) [0] = false) (hm : V ≤ 9223372036854775807) :
    Calls Tryd.prog 45 #[.string s] w fun e w' => e = .returned (.tuple #[.int .i64 V, .int .i64 (1 + (c.toNat : Int) - 128), .int .i64 0]) ∧ Below w.heap.size w w' := by
  have hz : ((s.size : Int) == 0) = false := beq_eq_false_iff_ne.2 (by omega)
  have hb := c.toNat_lt
  have c1 : 128 ≤ c.toNat := by omega
  have c2 : c.toNat ≤ 136 := by omega
  have hl' : 1 + c.toNat - 128 ≤ s.size := by omega
  have HM : Hid ((s.extract 1 (1 + c.toNat - 128)).data.toList = s.data.toList.tail.take kk) := by show (s.extract 1 (1 + c.toNat - 128)).data.toList = _; rw [show 1 + c.toNat - 128 = 1 + kk from by omega, mid_data]
  have HP : Hid (Lib.hasPrefix (s.data.toList.tail.take kk) [0] = false) := HP0
  clear hcc hl HP0
  go_enter Tryd.func45, Tryd.ntmps45
  go_wp2_with fail
  refine (number_any 8 _ _ (by simp only [ByteArray.size_extract]; omega) (by omega)).mono ?_
  rintro e w2 ⟨rfl, m, rfl⟩
  rw [HM.out, HV.out]
  have hbb : Below w.heap.size w (w.drewN m) := below_drewN (Below.refl _ _) m
  go_wp2_with fail
  refine (Tryd.strings_HasPrefix _ _ _).mono ?_
  rintro e w3 ⟨rfl, rfl⟩
  rw [show ({ data := #[0] } : ByteArray).data.toList = [0] from rfl, HM.out, HP.out]
  have hdec : decide ((9223372036854775808 : Int) ≤ (V : Int)) = false := decide_eq_false (by omega)
  go_wp2_with fail
  go_ret3
  exact ⟨rfl, hbb⟩

set_option maxRecDepth 100000 in
set_option maxHeartbeats 1000000 in
theorem rgetI_lo_short (s : ByteArray) (w : World) (hs : s.size ≤ 9223372036854775807) (hp : 0 < s.size) (c : UInt8) (hc : s[0] = c) (kk : Nat) (hcc : c.toNat + kk = 127) (h8 : kk ≤ 8) (hl : s.size < 1 + kk) :
    Calls Tryd.prog 45 #[.string s] w fun e w' => e = .returned (.tuple #[.int .i64 0, .int .i64 0, .int .i64 3]) ∧ Below w.heap.size w w' := by
  have hz : ((s.size : Int) == 0) = false := beq_eq_false_iff_ne.2 (by omega)
  have hb := c.toNat_lt
  have c1 : 119 ≤ c.toNat := by omega
  have c2 : c.toNat ≤ 127 := by omega
  have hl' : s.size < 128 - c.toNat := by omega
  clear hcc hl h8
  go_enter Tryd.func45, Tryd.ntmps45
  go_wp2_with fail
  go_ret3
  exact ⟨rfl, Below.refl _ _⟩

set_option maxRecDepth 100000 in
set_option maxHeartbeats 1000000 in
theorem rgetI_lo_bad (s : ByteArray) (w : World) (hs : s.size ≤ 9223372036854775807) (hp : 0 < s.size) (c : UInt8) (hc : s[0] = c) (kk : Nat) (hcc : c.toNat + kk = 127) (h8 : kk ≤ 8) (hl : 1 + kk ≤ s.size) (V : Nat) (HV : Hid (Nm.val (Nm.tn 255 (s.data.toList.tail.take kk)) = V)) (HP0 : Lib.hasPrefix (s.data.toList.tail.take kk) [255] = true) :
    Calls Tryd.prog 45 #[.string s] w fun e w' => e = .returned (.tuple #[.int .i64 0, .int .i64 0, .int .i64 4]) ∧ Below w.heap.size w w' := by
  have hz : ((s.size : Int) == 0) = false := beq_eq_false_iff_ne.2 (by omega)
  have hb := c.toNat_lt
  have c1 : 119 ≤ c.toNat := by omega
  have c2 : c.toNat ≤ 127 := by omega
  have hl' : 128 - c.toNat ≤ s.size := by omega
  have HM : Hid ((s.extract 1 (128 - c.toNat)).data.toList = s.data.toList.tail.take kk) := by show (s.extract 1 (128 - c.toNat)).data.toList = _; rw [show 128 - c.toNat = 1 + kk from by omega, mid_data]
  have HP : Hid (Lib.hasPrefix (s.data.toList.tail.take kk) [255] = true) := HP0
  clear hcc hl HP0
  go_enter Tryd.func45, Tryd.ntmps45
  go_wp2_with fail
  refine (turned_any _ _ (by simp only [ByteArray.size_extract]; omega)).mono ?_
  rintro e w1 ⟨rfl, hb1⟩
  rw [HM.out]
  go_wp2_with fail
  refine (number_any 8 _ _ (by rw [Lib.size_eq]; simp only [Nm.tn_length]; have := List.length_take_le kk s.data.toList.tail; omega) (by omega)).mono ?_
  rintro e w2 ⟨rfl, m, rfl⟩
  rw [show ({ data := (Nm.tn 255 (List.take kk s.data.toList.tail)).toArray } : ByteArray).data.toList = Nm.tn 255 (List.take kk s.data.toList.tail) from rfl, HV.out]
  have hbb : Below w.heap.size w (w1.drewN m) := below_drewN hb1 m
  go_wp2_with fail
  refine (Tryd.strings_HasPrefix _ _ _).mono ?_
  rintro e w3 ⟨rfl, rfl⟩
  rw [show ({ data := #[255] } : ByteArray).data.toList = [255] from rfl, HM.out, HP.out]
  go_wp2_with fail
  go_ret3
  exact ⟨rfl, hbb⟩

set_option maxRecDepth 100000 in
set_option maxHeartbeats 1000000 in
theorem rgetI_lo_big (s : ByteArray) (w : World) (hs : s.size ≤ 9223372036854775807) (hp : 0 < s.size) (c : UInt8) (hc : s[0] = c) (kk : Nat) (hcc : c.toNat + kk = 127) (h8 : kk ≤ 8) (hl : 1 + kk ≤ s.size) (V : Nat) (HV : Hid (Nm.val (Nm.tn 255 (s.data.toList.tail.take kk)) = V)) (HP0 : Lib.hasPrefix (s.data.toList.tail.take kk) [255] = false) (hm : 9223372036854775807 < V) :
    Calls Tryd.prog 45 #[.string s] w fun e w' => e = .returned (.tuple #[.int .i64 0, .int .i64 0, .int .i64 4]) ∧ Below w.heap.size w w' := by
  have hz : ((s.size : Int) == 0) = false := beq_eq_false_iff_ne.2 (by omega)
  have hb := c.toNat_lt
  have c1 : 119 ≤ c.toNat := by omega
  have c2 : c.toNat ≤ 127 := by omega
  have hl' : 128 - c.toNat ≤ s.size := by omega
  have HM : Hid ((s.extract 1 (128 - c.toNat)).data.toList = s.data.toList.tail.take kk) := by show (s.extract 1 (128 - c.toNat)).data.toList = _; rw [show 128 - c.toNat = 1 + kk from by omega, mid_data]
  have HP : Hid (Lib.hasPrefix (s.data.toList.tail.take kk) [255] = false) := HP0
  clear hcc hl HP0
  go_enter Tryd.func45, Tryd.ntmps45
  go_wp2_with fail
  refine (turned_any _ _ (by simp only [ByteArray.size_extract]; omega)).mono ?_
  rintro e w1 ⟨rfl, hb1⟩
  rw [HM.out]
  go_wp2_with fail
  refine (number_any 8 _ _ (by rw [Lib.size_eq]; simp only [Nm.tn_length]; have := List.length_take_le kk s.data.toList.tail; omega) (by omega)).mono ?_
  rintro e w2 ⟨rfl, m, rfl⟩
  rw [show ({ data := (Nm.tn 255 (List.take kk s.data.toList.tail)).toArray } : ByteArray).data.toList = Nm.tn 255 (List.take kk s.data.toList.tail) from rfl, HV.out]
  have hbb : Below w.heap.size w (w1.drewN m) := below_drewN hb1 m
  go_wp2_with fail
  refine (Tryd.strings_HasPrefix _ _ _).mono ?_
  rintro e w3 ⟨rfl, rfl⟩
  rw [show ({ data := #[255] } : ByteArray).data.toList = [255] from rfl, HM.out, HP.out]
  have hdec : decide ((9223372036854775808 : Int) ≤ (V : Int)) = true := decide_eq_true (by omega)
  clear hm
  go_wp2_with fail
  go_ret3
  exact ⟨rfl, hbb⟩

set_option maxRecDepth 100000 in
set_option maxHeartbeats 1000000 in
theorem rgetI_lo_ok (s : ByteArray) (w : World) (hs : s.size ≤ 9223372036854775807) (hp : 0 < s.size) (c : UInt8) (hc : s[0] = c) (kk : Nat) (hcc : c.toNat + kk = 127) (h8 : kk ≤ 8) (hl : 1 + kk ≤ s.size) (V : Nat) (HV : Hid (Nm.val (Nm.tn 255 (s.data.toList.tail.take kk)) = V)) (HP0 : Lib.hasPrefix (s.data.toList.tail.take kk) [255] = false) (hm : V ≤ 9223372036854775807) :
    Calls Tryd.prog 45 #[.string s] w fun e w' => e = .returned (.tuple #[.int .i64 (-1 - (V : Int)), .int .i64 (128 - (c.toNat : Int)), .int .i64 0]) ∧ Below w.heap.size w w' := by
  have hz : ((s.size : Int) == 0) = false := beq_eq_false_iff_ne.2 (by omega)
  have hb := c.toNat_lt
  have c1 : 119 ≤ c.toNat := by omega
  have c2 : c.toNat ≤ 127 := by omega
  have hl' : 128 - c.toNat ≤ s.size := by omega
  have HM : Hid ((s.extract 1 (128 - c.toNat)).data.toList = s.data.toList.tail.take kk) := by show (s.extract 1 (128 - c.toNat)).data.toList = _; rw [show 128 - c.toNat = 1 + kk from by omega, mid_data]
  have HP : Hid (Lib.hasPrefix (s.data.toList.tail.take kk) [255] = false) := HP0
  clear hcc hl HP0
  go_enter Tryd.func45, Tryd.ntmps45
  go_wp2_with fail
  refine (turned_any _ _ (by simp only [ByteArray.size_extract]; omega)).mono ?_
  rintro e w1 ⟨rfl, hb1⟩
  rw [HM.out]
  go_wp2_with fail
  refine (number_any 8 _ _ (by rw [Lib.size_eq]; simp only [Nm.tn_length]; have := List.length_take_le kk s.data.toList.tail; omega) (by omega)).mono ?_
  rintro e w2 ⟨rfl, m, rfl⟩
  rw [show ({ data := (Nm.tn 255 (List.take kk s.data.toList.tail)).toArray } : ByteArray).data.toList = Nm.tn 255 (List.take kk s.data.toList.tail) from rfl, HV.out]
  have hbb : Below w.heap.size w (w1.drewN m) := below_drewN hb1 m
  go_wp2_with fail
  refine (Tryd.strings_HasPrefix _ _ _).mono ?_
  rintro e w3 ⟨rfl, rfl⟩
  rw [show ({ data := #[255] } : ByteArray).data.toList = [255] from rfl, HM.out, HP.out]
  have hdec : decide ((9223372036854775808 : Int) ≤ (V : Int)) = false := decide_eq_false (by omega)
  go_wp2_with fail
  go_ret3
  exact ⟨rfl, hbb⟩

end Go.Proofs.YtcgecafajgoeeaaDoor
