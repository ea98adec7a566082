package sets

import "quincunx/api"

// fits tells whether there is nothing in a grammar more often than it may be, and each number is a token's or a rule's. What may be (check.Valid) fits, and of what fits all is soon reckoned.
// It asks for less than check.Valid, which takes longer alone than all that Lead does, and Lead is asked of each alternative.
func fits(c api.Cfg) bool {
	rules := len(c.Alts)
	if rules == 0 || rules > api.MaxRules || len(c.Tokens) > api.MaxRules {
		return false
	}
	for _, alts := range c.Alts {
		if len(alts) > api.MaxAlts {
			return false
		}
		for _, alt := range alts {
			if len(alt) > api.MaxLong || !areNumbers(c, alt) {
				return false
			}
		}
	}
	return true
}

// areNumbers tells whether all of seq are numbers of tokens or rules.
func areNumbers(c api.Cfg, seq []int) bool {
	for _, n := range seq {
		if n < numberOf(len(c.Alts)-1) || n >= len(c.Tokens) {
			return false
		}
	}
	return true
}

func numberOf(rule int) int { return -1 - rule }

func ruleOf(number int) int { return -1 - number }
