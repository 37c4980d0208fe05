/-
  Plain facts (no Go in here): days and dates of P53, weekdays and weeks of P54.
-/
namespace Go.Proofs.Ytoibiaikbgkbpaa
namespace Cv

/-- the document's number of a date -/
def days (y m d : Int) : Int :=
  if m ≤ 2 then 365 * (y - 1) + (y - 1) / 4 - (y - 1) / 100 + (y - 1) / 400 + (153 * (m + 12 - 3) + 2) / 5 + d - 1 - 719468
  else 365 * y + y / 4 - y / 100 + y / 400 + (153 * (m - 3) + 2) / 5 + d - 1 - 719468

def era (n : Int) : Int := (n + 719468) / 146097
def ofE (n : Int) : Int := n + 719468 - 146097 * era n
def yoe (o : Int) : Int := (o - o / 1460 + o / 36524 - o / 146096) / 365
def doy (o : Int) : Int := o - (365 * yoe o + yoe o / 4 - yoe o / 100)
def mk (o : Int) : Int := (5 * doy o + 2) / 153
def dom (o : Int) : Int := doy o - (153 * mk o + 2) / 5 + 1

/-- the document's date of a day -/
def date (n : Int) : Int × Int × Int :=
  if mk (ofE n) < 10 then (400 * era n + yoe (ofE n), mk (ofE n) + 3, dom (ofE n))
  else (400 * era n + yoe (ofE n) + 1, mk (ofE n) - 9, dom (ofE n))

def leap (y : Int) : Bool := y % 4 = 0 && (y % 100 ≠ 0 || y % 400 = 0)

/-- how many days a month has -/
def dim (y m : Int) : Int := if m = 2 then (if leap y then 29 else 28) else if m = 4 ∨ m = 6 ∨ m = 9 ∨ m = 11 then 30 else 31

structure Ok (y m d : Int) : Prop where
  m1 : 1 ≤ m
  m12 : m ≤ 12
  d1 : 1 ≤ d
  dm : d ≤ dim y m

theorem leap_iff (y : Int) : leap y = true ↔ (y % 4 = 0 ∧ (y % 100 ≠ 0 ∨ y % 400 = 0)) := by
  unfold leap; simp

theorem ofE_lt (n : Int) : 0 ≤ ofE n ∧ ofE n < 146097 := by unfold ofE era; omega

/-- of an era's days, the year -/
theorem yoe_at {o : Int} (h0 : 0 ≤ o) (h1 : o < 146097) : 0 ≤ yoe o ∧ yoe o < 400 ∧ 365 * yoe o + yoe o / 4 - yoe o / 100 ≤ o ∧ (o < 365 * (yoe o + 1) + (yoe o + 1) / 4 - (yoe o + 1) / 100 ∨ yoe o = 399) := by
  have hf : o / 36524 = 0 ∨ o / 36524 = 1 ∨ o / 36524 = 2 ∨ o / 36524 = 3 ∨ o / 36524 = 4 := by omega
  by_cases hl : o = 146096
  · subst hl; decide
  have hg : o / 146096 = 0 := by omega
  obtain ⟨f, hf'⟩ : ∃ f, f = o / 36524 := ⟨_, rfl⟩
  obtain ⟨c, hc⟩ : ∃ c, c = (o - 36524 * f) / 1461 := ⟨_, rfl⟩
  have hb : ∃ e k, o / 1460 = 25 * f + c + e ∧ (0 ≤ k ∧ k ≤ 3) ∧ yoe o = 100 * f + 4 * c + k ∧ 365 * k ≤ o - 36524 * f - 1461 * c ∧ (o - 36524 * f - 1461 * c < 365 * (k + 1) ∨ k = 3) := by
    unfold yoe
    rw [hg, ← hf']
    rw [← hf'] at hf
    refine ⟨o / 1460 - 25 * f - c, (o - o / 1460 + f - 0) / 365 - 100 * f - 4 * c, by omega, ?_⟩
    have he : o / 1460 = 25 * f + c ∨ (o / 1460 = 25 * f + c + 1 ∧ 1364 ≤ o - 36524 * f - 1461 * c) := by
      rcases hf with h | h | h | h | h <;> rw [h] at hc ⊢ <;> omega
    rcases he with he | ⟨he, _⟩ <;> rw [he] <;> refine ⟨by omega, by omega, by omega, by omega⟩
  obtain ⟨e, k, h1, h2, h3, h4, h5⟩ := hb
  rw [h3]
  rw [← hf'] at hf
  clear hg h1 h3
  have hf3 : 0 ≤ f ∧ f ≤ 3 := by omega
  have hc0 : 0 ≤ c ∧ c ≤ 24 := by omega
  have e1 : (100 * f + 4 * c + k) / 4 = 25 * f + c := by omega
  have e2 : (100 * f + 4 * c + k) / 100 = f := by omega
  have hcs : o - 36524 * f - 1461 * c ≤ 1460 ∧ (c = 24 → o - 36524 * f - 1461 * c ≤ 1459) := by omega
  rw [e1, e2]
  refine ⟨by omega, by omega, by omega, ?_⟩
  by_cases hk : k = 3
  · subst hk
    have e3 : (100 * f + 4 * c + 3 + 1) / 4 = 25 * f + c + 1 := by omega
    rw [e3]
    by_cases hc4 : c = 24
    · subst hc4
      have e4 : (100 * f + 4 * 24 + 3 + 1) / 100 = f + 1 := by omega
      rw [e4]
      omega
    · have e4 : (100 * f + 4 * c + 3 + 1) / 100 = f := by omega
      rw [e4]
      omega
  · have e3 : (100 * f + 4 * c + k + 1) / 4 = 25 * f + c := by omega
    have e4 : (100 * f + 4 * c + k + 1) / 100 = f := by omega
    rw [e3, e4]
    omega

/-- of an era's days, what of a year has gone by -/
theorem doy_at {o : Int} (h0 : 0 ≤ o) (h1 : o < 146097) : 0 ≤ doy o ∧ doy o ≤ 365 ∧ (doy o = 365 → leap (yoe o + 1) = true) ∧ 0 ≤ yoe o ∧ yoe o < 400 ∧ o = 365 * yoe o + yoe o / 4 - yoe o / 100 + doy o := by
  obtain ⟨h2, h3, h4, h5⟩ := yoe_at h0 h1
  have hd : doy o = o - (365 * yoe o + yoe o / 4 - yoe o / 100) := rfl
  refine ⟨by omega, ?_, ?_, h2, h3, by omega⟩
  · rcases h5 with h5 | h5
    · have : (yoe o + 1) / 4 ≤ yoe o / 4 + 1 := by omega
      have : yoe o / 100 ≤ (yoe o + 1) / 100 := by omega
      omega
    · rw [hd, h5]; omega
  · intro he
    rw [leap_iff]
    rcases h5 with h5 | h5
    · have a1 : yoe o / 100 ≤ (yoe o + 1) / 100 := by omega
      have a2 : (yoe o + 1) / 4 = yoe o / 4 + 1 := by omega
      have a3 : (yoe o + 1) / 100 = yoe o / 100 := by omega
      refine ⟨by omega, .inl (by omega)⟩
    · rw [h5]; decide

theorem leap_era (e y : Int) : leap (400 * e + y) = leap y := by
  have : ∀ a b : Bool, (a = true ↔ b = true) → a = b := by decide
  refine this _ _ ?_
  rw [leap_iff, leap_iff]
  omega

theorem mk_at {q : Int} (h0 : 0 ≤ q) (h1 : q ≤ 365) : let k := (5 * q + 2) / 153; let d := q - (153 * k + 2) / 5 + 1
    (k = 0 ∨ k = 1 ∨ k = 2 ∨ k = 3 ∨ k = 4 ∨ k = 5 ∨ k = 6 ∨ k = 7 ∨ k = 8 ∨ k = 9 ∨ k = 10 ∨ k = 11) ∧ 1 ≤ d ∧ d ≤ 31 ∧ ((k = 1 ∨ k = 3 ∨ k = 6 ∨ k = 8) → d ≤ 30) ∧ (k = 11 → d ≤ 29 ∧ (d = 29 → q = 365)) := by
  intro k d
  have hk : k = 0 ∨ k = 1 ∨ k = 2 ∨ k = 3 ∨ k = 4 ∨ k = 5 ∨ k = 6 ∨ k = 7 ∨ k = 8 ∨ k = 9 ∨ k = 10 ∨ k = 11 := by omega
  have hd : d = q - (153 * k + 2) / 5 + 1 := rfl
  have hk' : k = (5 * q + 2) / 153 := rfl
  clear_value d k
  refine ⟨hk, ?_⟩
  rcases hk with h | h | h | h | h | h | h | h | h | h | h | h <;> subst h <;> omega

theorem date_at (n : Int) : Ok (date n).1 (date n).2.1 (date n).2.2 ∧ days (date n).1 (date n).2.1 (date n).2.2 = n := by
  obtain ⟨ho1, ho2⟩ := ofE_lt n
  obtain ⟨h1, h2, h3, h4, h5, h6⟩ := doy_at ho1 ho2
  obtain ⟨hk, k1, k2, k3, k4⟩ := mk_at h1 h2
  have hn : n = 146097 * era n + ofE n - 719468 := by unfold ofE; omega
  generalize hq : doy (ofE n) = q at *
  generalize hy : yoe (ofE n) = y at *
  have em : mk (ofE n) = (5 * q + 2) / 153 := by unfold mk; rw [hq]
  have ed : dom (ofE n) = q - (153 * ((5 * q + 2) / 153) + 2) / 5 + 1 := by unfold dom; rw [em, hq]
  unfold date
  rw [em, ed, hy]
  generalize hK : (5 * q + 2) / 153 = k at *
  generalize hD : q - (153 * k + 2) / 5 + 1 = d at *
  have hl : leap (400 * era n + y + 1) = leap (y + 1) := by rw [Int.add_assoc]; exact leap_era _ _
  generalize era n = e at *
  have a4 : (400 * e + y) / 4 = 100 * e + y / 4 := by omega
  have a100 : (400 * e + y) / 100 = 4 * e + y / 100 := by omega
  have a400 : (400 * e + y) / 400 = e := by omega
  split
  · rename_i hk10
    dsimp only
    refine ⟨⟨by omega, by omega, k1, ?_⟩, ?_⟩
    · unfold dim
      rcases hk with h | h | h | h | h | h | h | h | h | h | h | h <;> subst h <;> simp <;> omega
    · unfold days
      rw [if_neg (by omega), a4, a100, a400]
      have : k + 3 - 3 = k := by omega
      rw [this]
      omega
  · rename_i hk10
    dsimp only
    have hk' : k = 10 ∨ k = 11 := by omega
    refine ⟨⟨by omega, by omega, k1, ?_⟩, ?_⟩
    · unfold dim
      rw [hl]
      rcases hk' with h | h <;> subst h
      · simp; omega
      · have := k4 rfl
        by_cases e : q = 365
        · rw [h3 e]; simp; omega
        · simp; split <;> omega
    · unfold days
      have : 400 * e + y + 1 - 1 = 400 * e + y := by omega
      rw [if_pos (by omega), this, a4, a100, a400]
      have : k - 9 + 12 - 3 = k := by omega
      rw [this]
      omega

/-- how many days of a year lie ahead of a month -/
def ahead (y m : Int) : Int := if m ≤ 2 then 31 * (m - 1) else (if leap y then 60 else 59) + (153 * (m - 3) + 2) / 5

/-- how many days lie ahead of a year, the first of March of year 0 the first -/
def year0 (y : Int) : Int := 365 * (y - 1) + (y - 1) / 4 - (y - 1) / 100 + (y - 1) / 400 + 306 - 719468

theorem days_year {y m d : Int} (h1 : 1 ≤ m) (h2 : m ≤ 12) : days y m d = year0 y + ahead y m + d - 1 := by
  unfold days year0 ahead
  split
  · have : m = 1 ∨ m = 2 := by omega
    rcases this with h | h <;> subst h <;> omega
  · by_cases hl : leap y = true
    · rw [if_pos hl]
      rw [leap_iff] at hl
      have : (y - 1) / 4 = y / 4 - 1 := by omega
      have : y / 100 - (y - 1) / 100 = y / 400 - (y - 1) / 400 := by omega
      omega
    · rw [if_neg hl]
      rw [leap_iff] at hl
      have : y / 4 - (y - 1) / 4 - (y / 100 - (y - 1) / 100) + (y / 400 - (y - 1) / 400) = 0 := by omega
      omega

theorem year0_next (y : Int) : year0 (y + 1) = year0 y + if leap y then 366 else 365 := by
  have h1 := days_year (y := y) (m := 12) (d := 32) (by omega) (by omega)
  unfold days at h1
  unfold ahead at h1
  unfold year0 at h1 ⊢
  have : y + 1 - 1 = y := by omega
  rw [this]
  by_cases hl : leap y = true
  · simp only [hl, if_true] at h1 ⊢
    omega
  · simp only [hl] at h1 ⊢
    simp at h1 ⊢
    omega

theorem year0_lt {y z : Int} (h : y < z) : year0 y + 365 ≤ year0 z := by
  obtain ⟨k, rfl⟩ : ∃ k : Nat, z = y + 1 + k := ⟨(z - (y + 1)).toNat, by omega⟩
  clear h
  induction k with
  | zero =>
    have := year0_next y
    simp
    rw [this]
    split <;> omega
  | succ k ih =>
    have := year0_next (y + 1 + (k : Int))
    have e : y + 1 + ((k + 1 : Nat) : Int) = y + 1 + (k : Int) + 1 := by omega
    rw [e, this]
    split <;> omega

theorem ahead_next {y m : Int} (h1 : 1 ≤ m) (h2 : m ≤ 12) : ahead y m + dim y m = if m = 12 then (if leap y then 366 else 365) else ahead y (m + 1) := by
  unfold ahead dim
  have : m = 1 ∨ m = 2 ∨ m = 3 ∨ m = 4 ∨ m = 5 ∨ m = 6 ∨ m = 7 ∨ m = 8 ∨ m = 9 ∨ m = 10 ∨ m = 11 ∨ m = 12 := by omega
  by_cases hl : leap y = true
  · simp only [hl, if_true]
    rcases this with h | h | h | h | h | h | h | h | h | h | h | h <;> subst h <;> decide
  · have hl' : leap y = false := by simpa using hl
    simp only [hl']
    rcases this with h | h | h | h | h | h | h | h | h | h | h | h <;> subst h <;> decide

theorem dim_le (y m : Int) : 28 ≤ dim y m ∧ dim y m ≤ 31 := by
  unfold dim; split <;> split <;> omega

theorem ahead_lt {y m b : Int} (h1 : 1 ≤ m) (h2 : m < b) (h3 : b ≤ 12) : ahead y m + dim y m ≤ ahead y b := by
  obtain ⟨k, rfl⟩ : ∃ k : Nat, b = m + 1 + k := ⟨(b - (m + 1)).toNat, by omega⟩
  clear h2
  induction k with
  | zero =>
    have := ahead_next (y := y) (m := m) h1 (by omega)
    rw [if_neg (by omega)] at this
    simp
    omega
  | succ k ih =>
    have := ahead_next (y := y) (m := m + 1 + (k : Int)) (by omega) (by omega)
    rw [if_neg (by omega)] at this
    have h := ih (by omega)
    have hd := (dim_le y (m + 1 + (k : Int))).1
    have e : m + 1 + ((k + 1 : Nat) : Int) = m + 1 + (k : Int) + 1 := by omega
    rw [e]
    omega

theorem ahead_in {y m d : Int} (h : Ok y m d) : 0 ≤ ahead y m + d - 1 ∧ ahead y m + d - 1 < if leap y then 366 else 365 := by
  have h0 : 0 ≤ ahead y m := by
    unfold ahead
    have := h.m1; have := h.m12
    split <;> first | omega | (split <;> omega)
  refine ⟨by have := h.d1; omega, ?_⟩
  have h1 := h.dm
  by_cases hm : m = 12
  · have := ahead_next (y := y) (m := m) h.m1 h.m12
    rw [if_pos hm] at this
    omega
  · have h2 := ahead_lt (y := y) (m := m) (b := 12) h.m1 (by have := h.m12; omega) (by omega)
    have h3 := ahead_next (y := y) (m := 12) (by omega) (by omega)
    rw [if_pos rfl] at h3
    have := (dim_le y 12).1
    omega

/-- a later date has a greater number -/
theorem days_lt {y m d a b c : Int} (h : Ok y m d) (k : Ok a b c) (hlt : y < a ∨ (y = a ∧ (m < b ∨ (m = b ∧ d < c)))) : days y m d < days a b c := by
  rw [days_year h.m1 h.m12, days_year k.m1 k.m12]
  rcases hlt with hl | ⟨rfl, hl | ⟨rfl, hl⟩⟩
  · have h1 := year0_next y
    have h2 := (ahead_in h).2
    have h3 := (ahead_in k).1
    by_cases e : a = y + 1
    · subst e; omega
    · have := year0_lt (y := y + 1) (z := a) (by omega)
      omega
  · have := ahead_lt (y := y) h.m1 hl k.m12
    have := h.dm
    have := k.d1
    omega
  · omega

theorem days_inj {y m d a b c : Int} (h : Ok y m d) (k : Ok a b c) (e : days y m d = days a b c) : y = a ∧ m = b ∧ d = c := by
  by_cases h1 : y < a ∨ (y = a ∧ (m < b ∨ (m = b ∧ d < c)))
  · have := days_lt h k h1; omega
  · by_cases h2 : a < y ∨ (a = y ∧ (b < m ∨ (b = m ∧ c < d)))
    · have := days_lt k h h2; omega
    · omega

theorem days_lt_iff {y m d a b c : Int} (h : Ok y m d) (k : Ok a b c) : days y m d < days a b c ↔ (y < a ∨ (y = a ∧ (m < b ∨ (m = b ∧ d < c)))) := by
  refine ⟨fun e => ?_, days_lt h k⟩
  by_cases h2 : a < y ∨ (a = y ∧ (b < m ∨ (b = m ∧ c < d)))
  · have := days_lt k h h2; omega
  · by_cases h1 : y < a ∨ (y = a ∧ (m < b ∨ (m = b ∧ d < c)))
    · exact h1
    · have : y = a ∧ m = b ∧ d = c := by omega
      obtain ⟨rfl, rfl, rfl⟩ := this
      omega

/-- the date of a date's number -/
theorem date_days {y m d : Int} (h : Ok y m d) : date (days y m d) = (y, m, d) := by
  obtain ⟨h1, h2⟩ := date_at (days y m d)
  obtain ⟨e1, e2, e3⟩ := days_inj h1 h h2
  exact Prod.ext e1 (Prod.ext e2 e3)

theorem date_iff {n y m d : Int} : date n = (y, m, d) ↔ (Ok y m d ∧ days y m d = n) := by
  refine ⟨fun e => ?_, fun ⟨h, e⟩ => by rw [← e]; exact date_days h⟩
  have := date_at n
  rw [e] at this
  exact this

theorem first_day : days 1 1 1 = -719162 := by decide

theorem last_day : days 9999 12 31 = 2932896 := by decide

theorem dim31 (y : Int) : dim y 12 = 31 := by unfold dim; simp

/-- years 1 to 9999 are the days that are served -/
theorem year_in {y m d : Int} (h : Ok y m d) : (-719162 ≤ days y m d ∧ days y m d ≤ 2932896) ↔ (1 ≤ y ∧ y ≤ 9999) := by
  have k1 : Ok 1 1 1 := ⟨by omega, by omega, by omega, by have := (dim_le 1 1).1; omega⟩
  have k2 : Ok 9999 12 31 := ⟨by omega, by omega, by omega, by rw [dim31]; omega⟩
  have a1 := days_lt_iff h k1
  have a2 := days_lt_iff k2 h
  rw [first_day] at a1
  rw [last_day] at a2
  have := h.m1; have := h.d1; have := h.m12; have := h.dm; have := (dim_le y m).2
  omega

/-- is the day served? -/
def dayOk (n : Int) : Prop := -719162 ≤ n ∧ n ≤ 2932896
instance (n : Int) : Decidable (dayOk n) := by unfold dayOk; infer_instance

theorem dayOk_iff (n : Int) : dayOk n ↔ (1 ≤ (date n).1 ∧ (date n).1 ≤ 9999) := by
  obtain ⟨h, e⟩ := date_at n
  have := year_in h
  rw [e] at this
  exact this

/-- 1 of a Monday to 7 of a Sunday -/
def weekday (n : Int) : Int := (n + 3) % 7 + 1

theorem weekday_doc (n : Int) : (n - n / 7 * 7 + 3) % 7 + 1 = weekday n := by unfold weekday; omega

def thurs (n : Int) : Int := n + 4 - weekday n

/-- the year of a week, and its number in it -/
def week (n : Int) : Int × Int := ((date (thurs n)).1, (thurs n - year0 (date (thurs n)).1) / 7 + 1)

theorem year0_days (y : Int) : days y 1 1 = year0 y := by rw [days_year (by omega) (by omega)]; unfold ahead; simp

/-- where in its year a day lies -/
theorem in_year (n : Int) : year0 (date n).1 ≤ n ∧ n < year0 (date n).1 + (if leap (date n).1 then 366 else 365) := by
  obtain ⟨h, e⟩ := date_at n
  have h1 := ahead_in h
  rw [days_year h.m1 h.m12] at e
  omega

theorem year_iff {n y : Int} : (date n).1 = y ↔ (year0 y ≤ n ∧ n < year0 (y + 1)) := by
  have h := in_year n
  rw [← year0_next] at h
  refine ⟨fun e => by rw [← e]; exact h, fun ⟨h1, h2⟩ => ?_⟩
  have h3 : ¬ (date n).1 < y := fun k => by
    by_cases e : y = (date n).1 + 1
    · rw [← e] at h; omega
    · have := year0_lt (y := (date n).1 + 1) (z := y) (by omega); omega
  have h4 : ¬ y < (date n).1 := fun k => by
    by_cases e : (date n).1 = y + 1
    · rw [← e] at h2; omega
    · have := year0_lt (y := y + 1) (z := (date n).1) (by omega); omega
  omega

theorem weekday_in (n : Int) : 1 ≤ weekday n ∧ weekday n ≤ 7 := by unfold weekday; omega

theorem weekday_next (n : Int) : weekday (n + 1) = weekday n % 7 + 1 := by unfold weekday; omega

/-- the Thursday of a week lies in a year that is served -/
theorem thurs_in {n : Int} (h : dayOk n) : dayOk (thurs n) := by
  unfold dayOk at *
  unfold thurs weekday
  omega

theorem week_in (n : Int) : 1 ≤ (week n).2 ∧ (week n).2 ≤ 53 := by
  have := in_year (thurs n)
  unfold week
  dsimp only
  split at this <;> omega

/-- a week is that of the next day, unless it ends -/
theorem week_next (n : Int) : (weekday n < 7 → week (n + 1) = week n) ∧ (weekday n = 7 → (week (n + 1) = ((week n).1, (week n).2 + 1) ∨ week (n + 1) = ((week n).1 + 1, 1))) := by
  constructor
  · intro h
    have hw := weekday_in n
    have : thurs (n + 1) = thurs n := by unfold thurs; rw [weekday_next]; omega
    unfold week
    rw [this]
  · intro h
    have ht : thurs (n + 1) = thurs n + 7 := by unfold thurs; rw [weekday_next]; omega
    have h1 := in_year (thurs n)
    rw [← year0_next] at h1
    unfold week
    rw [ht]
    generalize thurs n = t at *
    generalize hy : (date t).1 = y at *
    by_cases e : t + 7 < year0 (y + 1)
    · left
      have : (date (t + 7)).1 = y := year_iff.2 ⟨by omega, e⟩
      rw [this]
      exact Prod.ext rfl (by dsimp only; omega)
    · right
      have h2 := year0_lt (y := y + 1) (z := y + 1 + 1) (by omega)
      have : (date (t + 7)).1 = y + 1 := year_iff.2 ⟨by omega, by omega⟩
      rw [this]
      exact Prod.ext rfl (by dsimp only; omega)

/-- the fourth of January lies in the first week -/
theorem week_four (y : Int) : week (days y 1 4) = (y, 1) := by
  have h := year0_days y
  have h4 : days y 1 4 = year0 y + 3 := by rw [← h]; unfold days; simp; omega
  have h2 := year0_lt (y := y) (z := y + 1) (by omega)
  have hw := weekday_in (days y 1 4)
  have ht : thurs (days y 1 4) = year0 y + 7 - weekday (days y 1 4) := by unfold thurs; omega
  have : (date (thurs (days y 1 4))).1 = y := year_iff.2 ⟨by omega, by omega⟩
  unfold week
  rw [this]
  exact Prod.ext rfl (by dsimp only; omega)

/-- GREGORY: dates and weekdays come again -/
theorem era_on (n : Int) : date (n + 146097) = ((date n).1 + 400, (date n).2.1, (date n).2.2) ∧ weekday (n + 146097) = weekday n := by
  refine ⟨?_, by unfold weekday; omega⟩
  have h1 : era (n + 146097) = era n + 1 := by unfold era; omega
  have h2 : ofE (n + 146097) = ofE n := by unfold ofE; rw [h1]; omega
  unfold date
  rw [h1, h2]
  split
  · exact Prod.ext (by dsimp only; omega) rfl
  · exact Prod.ext (by dsimp only; omega) rfl

/-- a day more is the next date -/
theorem date_next {n y m d : Int} (h : date n = (y, m, d)) : (Ok y m (d + 1) ∧ date (n + 1) = (y, m, d + 1)) ∨ (¬ Ok y m (d + 1) ∧ ((m < 12 ∧ date (n + 1) = (y, m + 1, 1)) ∨ (m = 12 ∧ date (n + 1) = (y + 1, 1, 1)))) := by
  obtain ⟨k, e⟩ := date_iff.1 h
  by_cases hd : d + 1 ≤ dim y m
  · left
    have k' : Ok y m (d + 1) := ⟨k.m1, k.m12, by have := k.d1; omega, hd⟩
    refine ⟨k', date_iff.2 ⟨k', ?_⟩⟩
    rw [days_year k.m1 k.m12] at e ⊢
    omega
  · right
    refine ⟨fun q => hd q.dm, ?_⟩
    have hd' : d = dim y m := by have := k.dm; omega
    have ha := ahead_next (y := y) k.m1 k.m12
    rw [days_year k.m1 k.m12] at e
    by_cases hm : m = 12
    · right
      refine ⟨hm, date_iff.2 ⟨⟨by omega, by omega, by omega, by have := (dim_le (y + 1) 1).1; omega⟩, ?_⟩⟩
      rw [if_pos hm] at ha
      rw [year0_days, year0_next]
      omega
    · left
      have := k.m1; have := k.m12
      refine ⟨by omega, date_iff.2 ⟨⟨by omega, by omega, by omega, by have := (dim_le y (m + 1)).1; omega⟩, ?_⟩⟩
      rw [if_neg hm] at ha
      rw [days_year (by omega) (by omega)]
      omega

end Cv
end Go.Proofs.Ytoibiaikbgkbpaa
